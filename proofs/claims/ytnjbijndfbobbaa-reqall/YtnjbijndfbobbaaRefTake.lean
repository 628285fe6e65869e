/- The document's TakeRequest: the same requests. -/
import Derived.Test.YtnjbijndfbobbaaRefReader
import Derived.Test.YtnjbijndfbobbaaReqTake
import Derived.Deep.RegionLaw
namespace Go.Proofs.Ytnjbijndfbobbaa
open Go.RowKit
set_option maxRecDepth 100000
set_option linter.unusedVariables false

theorem own_drew {w : World} {g : Nat} {t : TypeId} {L : List Value} (h : Own w g t L) : Own w.drew g t L := h
theorem list_state {s4 sk : St} {nn k : Nat} {y : List Int} (hVc : ∀ a l', bd s4 (pCount 8) = .ok (a, l') → (nn : Int) = a) (e3 : bd (nx (pCount 8) s4) (pN nn []) = bd sk (pN (nn - k) y)) (h : (∃ l, sk = .ok l ∧ k = nn) ∨ ∃ e, sk = .error e) :
    (∀ a l', bd s4 (pList 8) = .ok (a, l') → y = a) ∧ nx (pList 8) s4 = sk := by
  obtain ⟨e1, e2⟩ := nx_seq (pCount 8) (fun n => pN n.toNat []) s4 (nn : Int) hVc
  rw [Int.toNat_natCast] at e1 e2
  have e4 : bd sk (pN (nn - k) y) = bd sk fun l => .ok (y, l) := by
    rcases h with ⟨l, rfl, rfl⟩ | ⟨e, rfl⟩
    · rw [Nat.sub_self]; rfl
    · rfl
  unfold pList
  rw [e2, e3, e4]
  refine ⟨fun a l' h => ?_, ?_⟩
  · cases sk with
    | error e => cases h
    | ok l => injection h with h; injection h
  · rw [e1]
    show bd (bd (nx (pCount 8) s4) (pN nn [])) _ = _
    rw [e3, e4]
    cases sk <;> rfl
theorem fbyte_nil (g : Nat) (w : World) (h : RfAt w g (.ok [])) :
    Calls Try.prog 52 #[.pointer (some ⟨g, 0, none⟩)] w (fun e w' => e = .returned (.int .u8 0) ∧ RfAt w' g (.error 3) ∧ Chg (fun k => k = g) w w') := by
  have HF := Lib.hid (h.fail 3 (by omega) (by omega))
  obtain ⟨A, c, h1, -, -, -, -⟩ := h
  obtain ⟨hc0, hc1, hf0, hf1⟩ := own_cells2 h1
  clear h1
  simp only [List.length_nil] at *
  go_enter Try.func52, Try.ntmps52
  go_wp2
  go_ret
  exact ⟨rfl, HF.out, chgSet _ _ _ _⟩
theorem over_own {w : World} {g : Nat} {s : St} (h : RfAt w g (overS s)) : ∃ A n c, Own w g 81 [.slice A n c, .int .i64 (endS s)] := by
  rcases s with e | (_ | ⟨x, l⟩)
  · obtain ⟨A, n, c, h1, _⟩ := h; exact ⟨A, n, c, h1⟩
  · obtain ⟨A, c, h1, _⟩ := h; exact ⟨A, _, c, h1⟩
  · obtain ⟨A, n, c, h1, _⟩ := h; exact ⟨A, n, c, h1⟩
theorem RfAt.own1 {w : World} {g : Nat} {e : Int} (h : RfAt w g (.error e)) : w.cell? ⟨g, 1, none⟩ = some (.int .i64 e) := by obtain ⟨A, n, c, h1, _⟩ := h; exact h1.cell 1
theorem RfAt.own0 {w : World} {g : Nat} {l : List Int} (h : RfAt w g (.ok l)) : w.cell? ⟨g, 1, none⟩ = some (.int .i64 0) := by obtain ⟨A, c, h1, _⟩ := h; exact h1.cell 1
theorem RfAt.cellE {w : World} {g : Nat} {s : St} (h : RfAt w g s) : ∃ e, w.cell? ⟨g, 1, none⟩ = some (.int .i64 e) ∧ ((e = 0 ∧ ∃ l, s = .ok l) ∨ (e ≠ 0 ∧ s = .error e)) := by
  cases s with
  | ok l => exact ⟨0, h.own0, .inl ⟨rfl, l, rfl⟩⟩
  | error e => exact ⟨e, h.own1, .inr ⟨by have := h.err e rfl; omega, rfl⟩⟩

theorem RfAt.cell0 {w : World} {g : Nat} {s : St} (h : RfAt w g s) : ∃ A n c, w.cell? ⟨g, 0, none⟩ = some (.slice A n c) ∧ n ≤ 1000000 ∧ ∀ l, s = .ok l → n = l.length := by
  cases s with
  | ok l => obtain ⟨A, c, h1, _, _, _, h5⟩ := h; exact ⟨A, _, c, h1.cell 0, h5, fun l' e => by injection e with e; rw [e]⟩
  | error e => obtain ⟨A, n, c, h1, _, _, h5⟩ := h; exact ⟨A, n, c, h1.cell 0, h5, fun l' e => by cases e⟩
/-- append(s, z) of numbers, as a step of a region that draws its order. -/
theorem step_appU1 {ops : Array Oper} {o : Oper} {a : Act} {K : Act → World → Prop} {Q : Exit → Act → World → Prop} {E : Prop} {w : World} (hgd : o.guard = none) (s x : Operand)
    (ho : o.op = .call { callee := .builtin .append, args := #[s, x], argTypes := #[24, 24] }) (base : Nat) (v : Value) (l : List Int) (hs : a.eval s = v) (hown : OwnU w base v l)
    (z : Int) (hx : a.eval x = .slice (some ⟨w.heap.size, 0, none⟩) 1 1) (hz0 : 0 ≤ z) (hz1 : z < 18446744073709551616) (hlen : l.length + 1 ≤ 1000000000) (hbase : base ≤ w.heap.size)
    (h : ∀ v' w', OwnU w' base v' (l ++ [z]) → Grew v w v' w' → K (a.put o.dst v') w') :
    if Region.wanted o (yielded ops a.tmps) = true then Oper.wp Try.prog o a (w.alloc (.cells #[.int .u64 z] 22)) K Q else E := by
  have hw : Region.wanted o (yielded ops a.tmps) = true := by simp [Region.wanted, hgd]
  rw [if_pos hw]
  have hb : Below w.heap.size w (w.alloc (.cells #[.int .u64 z] 22)) := (Below.refl _ _).alloc (Nat.le_refl _) _
  have hr := rdU_lit w [z] (IsU64.one hz0 hz1)
  have hown' := hown.later hb
  obtain ⟨v', w', hrun, g1, g2, g3⟩ := run_appG (ty := o.type) under_nums num_info rfl (by omega) (w.alloc (.cells #[.int .u64 z] 22)) base v l.length _ hown' _ 1 1 ([z].map (Value.int .u64)) (by simp) hr.2 (fun u hu => by obtain ⟨y, _, rfl⟩ := List.mem_map.1 hu; rfl) (by simp only [maxLen]; omega) (by omega) (by simp; omega)
  refine Lib.wp_append_run _ s x _ _ ho _ _ hs hx v' w' hrun (h v' w' (by unfold OwnU; simpa using g1) ((Grew.of_grown g2 g3).before hb fun k hk => ?_))
  exact owns_lt hown hk

/-- Within TakeRequest: the Reader in g4, what is made in g5, the result in g2. -/
def Rk (T : TypeId) (Z : List Value) (w : World) (g2 g4 g5 : Nat) (Q : List Value) (s : St) (wr : World) : Prop :=
  RfAt wr g4 s ∧ Own wr g5 T Q ∧ Own wr g2 T Z ∧ g4 < g5 ∧ g2 < g4 ∧ w.heap.size ≤ g2 ∧ Below w.heap.size w wr
section
variable {T : TypeId} {Z : List Value} {w : World} {g2 g4 g5 : Nat} {Q : List Value} {s s' : St} {wr w' : World}
theorem Rk.step (h : Rk T Z w g2 g4 g5 Q s wr) (h1 : RfAt w' g4 s') (hc : Chg (fun k => k = g4) wr w') : Rk T Z w g2 g4 g5 Q s' w' := by
  obtain ⟨p1, p2, p3, p4, p5, p6, p7⟩ := h
  exact ⟨h1, p2.chg hc (by omega), p3.chg hc (by omega), p4, p5, p6, p7.trans (hc.below p7.size fun i hi e => by omega)⟩
theorem Rk.set (h : Rk T Z w g2 g4 g5 Q s wr) (j : Nat) (u : Value) : Rk T Z w g2 g4 g5 (Q.set j u) s (wr.setCell ⟨g5, j, none⟩ u) := by
  obtain ⟨p1, p2, p3, p4, p5, p6, p7⟩ := h
  have hc := chgSet wr g5 j u
  exact ⟨p1.chg hc fun k hk => by omega, p2.set j u, p3.chg hc (by omega), p4, p5, p6, p7.trans (hc.below p7.size fun i hi e => by omega)⟩
theorem Rk.five (h : Rk T Z w g2 g4 g5 Q s wr) : g5 < wr.heap.size := h.2.1.lt
theorem Rk.later (h : Rk T Z w g2 g4 g5 Q s wr) (hb : Below wr.heap.size wr w') : Rk T Z w g2 g4 g5 Q s w' := by
  obtain ⟨p1, p2, p3, p4, p5, p6, p7⟩ := h
  exact ⟨p1.later hb, p2.later hb, p3.later hb, p4, p5, p6, p7.trans (hb.mono p7.size)⟩
theorem Rk.grew (h : Rk T Z w g2 g4 g5 Q s wr) {v v' : Value} (hg : Grew v wr v' w') (hv : ∀ k, v.ownBlock = some k → g5 < k) : Rk T Z w g2 g4 g5 Q s w' := by
  obtain ⟨p1, p2, p3, p4, p5, p6, p7⟩ := h
  exact ⟨p1.chg hg.1 fun k hk e => by have := hv k e; omega, p2.chg hg.1 fun e => by have := hv _ e; omega, p3.chg hg.1 fun e => by have := hv _ e; omega, p4, p5, p6, p7.trans (hg.1.below p7.size fun i hi e => by have := hv i e; omega)⟩
theorem Rk.farB (h : Rk T Z w g2 g4 g5 Q s wr) {v : Value} {y : List Int} {B : Option Addr} (ho : OwnB w' wr.heap.size v y) (hr : RdX (fun k => v.ownBlock = some k) w' B y) : RdX (fun k => g5 < k) w' B y :=
  hr.mono fun k _ e => by have := owns_ge ho e; have := h.five; omega
end

set_option maxHeartbeats 4000000 in
theorem refTake_most (A : Option Addr) (b : List Int) (n c : Nat) (w : World) (h : Rd w w.heap.size A b) (hn : n = b.length) (hl : n ≤ 1000000) (hc : n ≤ c) (hcm : c ≤ maxLen) (h4n : ∀ t, b ≠ 4 :: t) :
    Calls Try.prog 16 #[.slice A n c] w (TakePost b w) := by
  have HR := Lib.hid h
  have HN := Lib.hid hn
  have H4N := Lib.hid h4n
  clear h hn h4n
  go_enter Try.func16, Try.ntmps16
  have HF0 : Hid (RfAt ((w.alloc (.cells #[.int .i64 0, .int .u64 0, .int .u64 0, .string ⟨#[]⟩, .slice none 0 0, .slice none 0 0, .int .u64 0, .int .u64 0] 26)).alloc (.cells #[.slice A n c, .int .i64 0] 81)) (w.heap.size + 1) (.ok b) ∧ Own ((w.alloc (.cells #[.int .i64 0, .int .u64 0, .int .u64 0, .string ⟨#[]⟩, .slice none 0 0, .slice none 0 0, .int .u64 0, .int .u64 0] 26)).alloc (.cells #[.slice A n c, .int .i64 0] 81)) w.heap.size 26 [.int .i64 0, .int .u64 0, .int .u64 0, .string ⟨#[]⟩, .slice none 0 0, .slice none 0 0, .int .u64 0, .int .u64 0] ∧ Below w.heap.size w ((w.alloc (.cells #[.int .i64 0, .int .u64 0, .int .u64 0, .string ⟨#[]⟩, .slice none 0 0, .slice none 0 0, .int .u64 0, .int .u64 0] 26)).alloc (.cells #[.slice A n c, .int .i64 0] 81))) := by
    have hA := (Below.refl w.heap.size w).alloc (Nat.le_refl _) (.cells #[.int .i64 0, .int .u64 0, .int .u64 0, .string ⟨#[]⟩, .slice none 0 0, .slice none 0 0, .int .u64 0, .int .u64 0] 26)
    have h1 := Own.new w 26 [.int .i64 0, .int .u64 0, .int .u64 0, .string ⟨#[]⟩, .slice none 0 0, .slice none 0 0, .int .u64 0, .int .u64 0]
    have e1 : (w.alloc (.cells #[.int .i64 0, .int .u64 0, .int .u64 0, .string ⟨#[]⟩, .slice none 0 0, .slice none 0 0, .int .u64 0, .int .u64 0] 26)).heap.size = w.heap.size + 1 := by simp
    have hR := (HR.out.rx.later hA).mono (Y := (· < w.heap.size + 1)) fun k _ hk => by have : k < w.heap.size := hk; omega
    simp only [List.toArray] at h1
    generalize w.alloc (.cells #[.int .i64 0, .int .u64 0, .int .u64 0, .string ⟨#[]⟩, .slice none 0 0, .slice none 0 0, .int .u64 0, .int .u64 0] 26) = W at *
    have hB := (Below.refl W.heap.size W).alloc (Nat.le_refl _) (.cells #[.slice A n c, .int .i64 0] 81)
    have h2 := Own.new W 81 [.slice A n c, .int .i64 0]
    rw [e1] at h2
    refine ⟨⟨A, c, by rw [← HN.out]; exact h2, hR.later hB, by rw [← HN.out]; exact hc, hcm, by rw [← HN.out]; exact hl⟩, h1.later hB, hA.trans (hB.mono (by omega))⟩
  go_wp2_with fail
  obtain hbb | ⟨x, t, hbb⟩ : b = [] ∨ ∃ x t, b = x :: t := by
    cases b with
    | nil => exact .inl rfl
    | cons x t => exact .inr ⟨x, t, rfl⟩
  · have HBB := Lib.hid hbb
    have h00 := HF0.out.1
    rw [hbb] at h00
    clear hbb
    refine (fbyte_nil _ _ h00).mono ?_
    rintro e w1 ⟨rfl, h2, h4⟩
    have HT : Hid (Rk 26 [.int .i64 0, .int .u64 0, .int .u64 0, .string ⟨#[]⟩, .slice none 0 0, .slice none 0 0, .int .u64 0, .int .u64 0] w w.heap.size (w.heap.size + 1) w1.heap.size [.int .i64 0, .int .u64 0, .int .u64 0, .string ⟨#[]⟩, .slice none 0 0, .slice none 0 0, .int .u64 0, .int .u64 0] (.error 3) (w1.alloc (.cells #[.int .i64 0, .int .u64 0, .int .u64 0, .string ⟨#[]⟩, .slice none 0 0, .slice none 0 0, .int .u64 0, .int .u64 0] 26))) := by
      have hb : Below w1.heap.size w1 (w1.alloc (.cells #[.int .i64 0, .int .u64 0, .int .u64 0, .string ⟨#[]⟩, .slice none 0 0, .slice none 0 0, .int .u64 0, .int .u64 0] 26)) := (Below.refl _ _).alloc (Nat.le_refl _) _
      have hlt := h2.lt
      exact ⟨h2.later hb, Own.new w1 26 [.int .i64 0, .int .u64 0, .int .u64 0, .string ⟨#[]⟩, .slice none 0 0, .slice none 0 0, .int .u64 0, .int .u64 0], (HF0.out.2.1.chg h4 (by omega)).later hb, hlt, by omega, Nat.le_refl _, (HF0.out.2.2.trans (h4.below HF0.out.2.2.size fun i hi e => by omega)).trans (hb.mono (by omega))⟩
    have hlt := h2.lt
    clear h2 h4 h00
    have hE3 := HT.out.1.own1
    obtain ⟨c0, c1, c2, c3, c4, c5, c6, c7, f0, f1, f2, f3, f4, f5, f6, f7⟩ := own_cells8 HT.out.2.1
    go_wp2_with fail
    generalize hg5 : w1.heap.size = g5 at *
    generalize hg4 : w.heap.size + 1 = g4 at *
    generalize hg2 : w.heap.size = g2 at HT ⊢
    clear hg5 hg4 hg2
    refine (feight_any g4 _ _ HT.out.1).mono ?_
    rintro e w3 ⟨tok, rfl, t0, t1, h2, h3, h4⟩
    have hT := HT.out.step h2 h4
    clear c0 c1 c2 c3 c4 c5 c6 c7 f0 f1 f2 f3 f4 f5 f6 f7 hE3
    obtain ⟨c0, c1, c2, c3, c4, c5, c6, c7, f0, f1, f2, f3, f4, f5, f6, f7⟩ := own_cells8 hT.2.1
    have HT := Lib.hid (hT.set 1 (.int .u64 tok))
    clear h2 h3 h4 hT
    go_wp2_with fail
    refine (fover_any g4 _ _ HT.out.1).mono ?_
    rintro e wE ⟨⟨u, rfl⟩, hov, hE⟩
    obtain ⟨Ae, ne, ce, hOe⟩ := over_own hov
    obtain ⟨ec0, ec1, ef0, ef1⟩ := own_cells2 hOe
    clear c0 c1 c2 c3 c4 c5 c6 c7 f0 f1 f2 f3 f4 f5 f6 f7
    have hO := HT.out.2.1.chg hE (by have := HT.out.2.2.2.1; omega)
    obtain ⟨c0, c1, c2, c3, c4, c5, c6, c7, f0, f1, f2, f3, f4, f5, f6, f7⟩ := own_cells8 hO
    have hO2 := HT.out.2.2.1.chg hE (by have := HT.out.2.2.2.2.1; omega)
    obtain ⟨r0, r1, r2, r3, r4, r5, r6, r7, s0, s1, s2, s3, s4, s5, s6, s7⟩ := own_cells8 hO2
    have HB : Hid (Below w.heap.size w wE) := HT.out.2.2.2.2.2.2.trans (hE.below HT.out.2.2.2.2.2.2.size fun i hi e => by have := HT.out.2.2.2.2.1; have := HT.out.2.2.2.2.2.1; omega)
    have HK : Hid (takeReq b = bd (nx pWord (.error 3)) fun l => done ((zreq : Req), l)) := by unfold Hid; rw [HBB.out]; rfl
    have HO2 := Lib.hid hO2
    have HF := Lib.hid (fin_cases _ HT.out.1.err (zreq : Req))
    rw [← HK.out] at HF
    clear HK hO hO2 hE hov hOe
    generalize endS (nx pWord (.error 3)) = ee at *
    rcases HF.out with ⟨rfl, hf1, hf2⟩ | ⟨hf0, hf1, hf2⟩
    · exfalso
      have h3 : codeOf (takeReq []) = 3 := rfl
      rw [HBB.out, h3] at hf1
      cases hf1
    · have HF1 := Lib.hid (And.intro hf1 hf2)
      have hf3 : (ee != 0) = true := by simpa using hf0
      clear hf1 hf2 HF hf0
      have hg24 : g2 < g4 := HT.out.2.2.2.2.1
      have hg42 : ¬ g4 = g2 := by omega
      have hg43 : ¬ g2 = g4 := by omega
      go_wp2
      go_region
      have hW := own_drew (own_put8 HO2.out (.int .i64 0) (.int .u64 0) (.int .u64 0) (.string ⟨#[]⟩) (.slice none 0 0) (.slice none 0 0) (.int .u64 0) (.int .u64 0))
      have hC := (chg8 wE g2 #[.int .i64 0, .int .u64 0, .int .u64 0, .string ⟨#[]⟩, .slice none 0 0, .slice none 0 0, .int .u64 0, .int .u64 0]).drew
      show Exit.then _ _ _ _ (put8 wE g2 #[.int .i64 0, .int .u64 0, .int .u64 0, .string ⟨#[]⟩, .slice none 0 0, .slice none 0 0, .int .u64 0, .int .u64 0]).drew
      generalize (put8 wE g2 #[.int .i64 0, .int .u64 0, .int .u64 0, .string ⟨#[]⟩, .slice none 0 0, .slice none 0 0, .int .u64 0, .int .u64 0]).drew = W at *
      clear c0 c1 c2 c3 c4 c5 c6 c7 f0 f1 f2 f3 f4 f5 f6 f7 r0 r1 r2 r3 r4 r5 r6 r7 s0 s1 s2 s3 s4 s5 s6 s7 ec0 ec1 ef0 ef1
      obtain ⟨k0, k1, k2, k3, k4, k5, k6, k7, -, -, -, -, -, -, -, -⟩ := own_cells8 hW
      go_wp2
      refine bodyPost_ret (by simp [results, Try.results16, go_sem, k0, k1, k2, k3, k4, k5, k6, k7]; try rfl) rfl ?_
      obtain ⟨hf1, hf2⟩ := HF1.out
      refine ⟨_, by rw [hf1], by rw [hf2]; exact zreq_v _ _, HB.out.trans (hC.below HB.out.size fun i hi e => by have := HT.out.2.2.2.2.2.1; omega)⟩
  · refine (fbyte_any _ _ _ HF0.out.1).mono ?_
    rintro e w1 ⟨x', rfl, x0, x1, h2, h3, h4⟩
    obtain rfl : x' = x := h3 x t (by rw [hbb]; rfl)
    rw [hbb, show nx pByte (.ok (x' :: t)) = .ok t from rfl] at h2
    have HT : Hid (Rk 26 [.int .i64 0, .int .u64 0, .int .u64 0, .string ⟨#[]⟩, .slice none 0 0, .slice none 0 0, .int .u64 0, .int .u64 0] w w.heap.size (w.heap.size + 1) w1.heap.size [.int .i64 x', .int .u64 0, .int .u64 0, .string ⟨#[]⟩, .slice none 0 0, .slice none 0 0, .int .u64 0, .int .u64 0] (.ok t) (w1.alloc (.cells #[.int .i64 x', .int .u64 0, .int .u64 0, .string ⟨#[]⟩, .slice none 0 0, .slice none 0 0, .int .u64 0, .int .u64 0] 26))) := by
      have hb : Below w1.heap.size w1 (w1.alloc (.cells #[.int .i64 x', .int .u64 0, .int .u64 0, .string ⟨#[]⟩, .slice none 0 0, .slice none 0 0, .int .u64 0, .int .u64 0] 26)) := (Below.refl _ _).alloc (Nat.le_refl _) _
      have hlt := h2.lt
      exact ⟨h2.later hb, Own.new w1 26 [.int .i64 x', .int .u64 0, .int .u64 0, .string ⟨#[]⟩, .slice none 0 0, .slice none 0 0, .int .u64 0, .int .u64 0], (HF0.out.2.1.chg h4 (by omega)).later hb, hlt, by omega, Nat.le_refl _, (HF0.out.2.2.trans (h4.below HF0.out.2.2.size fun i hi e => by omega)).trans (hb.mono (by omega))⟩
    have hlt := h2.lt
    have hE0 := HT.out.1.own0
    have HVb := Lib.hid h3
    clear h2 h3 h4
    obtain ⟨c0, c1, c2, c3, c4, c5, c6, c7, f0, f1, f2, f3, f4, f5, f6, f7⟩ := own_cells8 HT.out.2.1
    have HE0 := Lib.hid hE0
    clear hE0
    have HBX := Lib.hid hbb
    clear hbb
    by_cases hx : x' < 1 ∨ 6 < x'
    · have HKB : Hid (takeReq b = .error 2) := by
        unfold Hid
        have hbx := HBX.out
        subst hbx
        have hp : pKind (x' :: t) = .error 2 := by simp only [pKind, seq, pByte, bd_ok]; rw [if_pos hx]
        simp only [takeReq, pReq, seq, bd_ok, hp, bd_error]
      have hq1 : (x' == 1) = false := by simp; omega
      have hq2 : (x' == 2) = false := by simp; omega
      have hq3 : (x' == 3) = false := by simp; omega
      have hq4 : (x' == 4) = false := by simp; omega
      have hq5 : (x' == 5) = false := by simp; omega
      have hq6 : (x' == 6) = false := by simp; omega
      have hE0 := HE0.out
      have fwd : ∀ P : Prop, (x' < 1 → P) → (¬ x' < 1 → 6 < x' → P) → P := fun P h1 h2 => by
        by_cases h : x' < 1
        · exact h1 h
        · exact h2 h (by omega)
      clear hx
      apply fwd
      all_goals intros
      all_goals clear fwd
      all_goals
        go_wp2_with fail
        refine (ffail_any _ _ 2 _ HT.out.1 (by omega) (by omega)).mono ?_
        rintro e w2 ⟨⟨u, rfl⟩, h2, h4⟩
        have h2 : RfAt w2 _ (.error 2) := h2
        have hT := HT.out.step h2 h4
        clear c0 c1 c2 c3 c4 c5 c6 c7 f0 f1 f2 f3 f4 f5 f6 f7 h2 h4 hE0
        obtain ⟨c0, c1, c2, c3, c4, c5, c6, c7, f0, f1, f2, f3, f4, f5, f6, f7⟩ := own_cells8 hT.2.1
        have HT := Lib.hid hT
        clear hT
        go_wp2_with fail
        generalize hg5 : w1.heap.size = g5 at *
        generalize hg4 : w.heap.size + 1 = g4 at *
        generalize hg2 : w.heap.size = g2 at HT ⊢
        clear hg5 hg4 hg2
        refine (feight_any g4 _ _ HT.out.1).mono ?_
        rintro e w3 ⟨tok, rfl, t0, t1, h2, h3, h4⟩
        have hT := HT.out.step h2 h4
        clear c0 c1 c2 c3 c4 c5 c6 c7 f0 f1 f2 f3 f4 f5 f6 f7
        obtain ⟨c0, c1, c2, c3, c4, c5, c6, c7, f0, f1, f2, f3, f4, f5, f6, f7⟩ := own_cells8 hT.2.1
        have HT := Lib.hid (hT.set 1 (.int .u64 tok))
        clear h2 h3 h4 hT
        go_wp2_with fail
        refine (fover_any g4 _ _ HT.out.1).mono ?_
        rintro e wE ⟨⟨u, rfl⟩, hov, hE⟩
        obtain ⟨Ae, ne, ce, hOe⟩ := over_own hov
        obtain ⟨ec0, ec1, ef0, ef1⟩ := own_cells2 hOe
        clear c0 c1 c2 c3 c4 c5 c6 c7 f0 f1 f2 f3 f4 f5 f6 f7
        have hO := HT.out.2.1.chg hE (by have := HT.out.2.2.2.1; omega)
        obtain ⟨c0, c1, c2, c3, c4, c5, c6, c7, f0, f1, f2, f3, f4, f5, f6, f7⟩ := own_cells8 hO
        have hO2 := HT.out.2.2.1.chg hE (by have := HT.out.2.2.2.2.1; omega)
        obtain ⟨r0, r1, r2, r3, r4, r5, r6, r7, s0, s1, s2, s3, s4, s5, s6, s7⟩ := own_cells8 hO2
        have HB : Hid (Below w.heap.size w wE) := HT.out.2.2.2.2.2.2.trans (hE.below HT.out.2.2.2.2.2.2.size fun i hi e => by have := HT.out.2.2.2.2.1; have := HT.out.2.2.2.2.2.1; omega)
        have HK : Hid (takeReq b = bd (nx pWord (.error 2)) fun l => done ((zreq : Req), l)) := by unfold Hid; rw [HKB.out]; rfl
        have HO2 := Lib.hid hO2
        have HF := Lib.hid (fin_cases _ HT.out.1.err (zreq : Req))
        rw [← HK.out] at HF
        clear HK hO hO2 hE hov hOe
        generalize endS (nx pWord (.error 2)) = ee at *
        rcases HF.out with ⟨rfl, hf1, hf2⟩ | ⟨hf0, hf1, hf2⟩
        · exfalso
          rw [HKB.out] at hf1
          cases hf1
        · have HF1 := Lib.hid (And.intro hf1 hf2)
          have hf3 : (ee != 0) = true := by simpa using hf0
          clear hf1 hf2 HF hf0
          have hg24 : g2 < g4 := HT.out.2.2.2.2.1
          have hg42 : ¬ g4 = g2 := by omega
          have hg43 : ¬ g2 = g4 := by omega
          go_wp2
          go_region
          have hW := own_drew (own_put8 HO2.out (.int .i64 0) (.int .u64 0) (.int .u64 0) (.string ⟨#[]⟩) (.slice none 0 0) (.slice none 0 0) (.int .u64 0) (.int .u64 0))
          have hC := (chg8 wE g2 #[.int .i64 0, .int .u64 0, .int .u64 0, .string ⟨#[]⟩, .slice none 0 0, .slice none 0 0, .int .u64 0, .int .u64 0]).drew
          show Exit.then _ _ _ _ (put8 wE g2 #[.int .i64 0, .int .u64 0, .int .u64 0, .string ⟨#[]⟩, .slice none 0 0, .slice none 0 0, .int .u64 0, .int .u64 0]).drew
          generalize (put8 wE g2 #[.int .i64 0, .int .u64 0, .int .u64 0, .string ⟨#[]⟩, .slice none 0 0, .slice none 0 0, .int .u64 0, .int .u64 0]).drew = W at *
          clear c0 c1 c2 c3 c4 c5 c6 c7 f0 f1 f2 f3 f4 f5 f6 f7 r0 r1 r2 r3 r4 r5 r6 r7 s0 s1 s2 s3 s4 s5 s6 s7 ec0 ec1 ef0 ef1
          obtain ⟨k0, k1, k2, k3, k4, k5, k6, k7, -, -, -, -, -, -, -, -⟩ := own_cells8 hW
          go_wp2
          refine bodyPost_ret (by simp [results, Try.results16, go_sem, k0, k1, k2, k3, k4, k5, k6, k7]; try rfl) rfl ?_
          obtain ⟨hf1, hf2⟩ := HF1.out
          refine ⟨_, by rw [hf1], by rw [hf2]; exact zreq_v _ _, HB.out.trans (hC.below HB.out.size fun i hi e => by have := HT.out.2.2.2.2.2.1; omega)⟩
    · have hx1 : ¬ x' < 1 := by omega
      have hx2 : ¬ 6 < x' := by omega
      have HKN : Hid (nx pKind (.ok b) = .ok t ∧ ∀ a l', bd (.ok b) pKind = .ok (a, l') → x' = a) := by
        have hbx := HBX.out
        subst hbx
        have hp : pKind (x' :: t) = .ok (x', t) := by simp only [pKind, seq, pByte, bd_ok]; rw [if_neg hx]
        exact ⟨by rw [nx_ok, hp]; rfl, fun a l' h => by rw [bd_ok, hp] at h; injection h with h; injection h⟩
      have hTT := HT.out
      rw [← HKN.out.1] at hTT
      have HT := Lib.hid hTT
      clear hTT
      have HV0 := Lib.hid HKN.out.2
      have hE0 := HE0.out
      clear hx
      go_wp2_with fail
      generalize hg5 : w1.heap.size = g5 at *
      generalize hg4 : w.heap.size + 1 = g4 at *
      generalize hg2 : w.heap.size = g2 at HT ⊢
      clear hg5 hg4 hg2
      refine (feight_any g4 _ _ HT.out.1).mono ?_
      rintro e w3 ⟨tok, rfl, t0, t1, h2, h3, h4⟩
      have hT := HT.out.step h2 h4
      clear c0 c1 c2 c3 c4 c5 c6 c7 f0 f1 f2 f3 f4 f5 f6 f7
      obtain ⟨c0, c1, c2, c3, c4, c5, c6, c7, f0, f1, f2, f3, f4, f5, f6, f7⟩ := own_cells8 hT.2.1
      have HT := Lib.hid (hT.set 1 (.int .u64 tok))
      have HVt := Lib.hid h3
      have HC0 := Lib.hid (And.intro hT.1.cell0 hT.2.2.2.1)
      clear h2 h3 h4 hT hE0
      rcases show x' = 1 ∨ x' = 2 ∨ x' = 3 ∨ x' = 4 ∨ x' = 5 ∨ x' = 6 from by omega with rfl | rfl | rfl | rfl | rfl | rfl
      all_goals clear hx1 hx2 x0 x1 HKN HVb HF0 HR
      · -- kind 1
        obtain ⟨⟨Ab, nb, cb, hb0, hb1, hb2⟩, hb3⟩ := HC0.out
        have HB2 := Lib.hid hb2
        have hb4 : ¬ g4 = g5 := by omega
        have hb5 : ¬ g5 = g4 := by omega
        have hb6 : (nb : Int) ≤ 1000000 := by omega
        clear hb2 HC0
        go_wp2_with fail
        refine (ftake_any g4 _ nb _ HT.out.1 (by omega)).mono ?_
        rintro e w4 ⟨v1, y, rfl, ho, p1, h2, h3, h4, q1⟩
        have HS : Hid (nx (pBytes nb) (nx pWord (nx pKind (.ok b))) = nx (pBytes (lenS (nx pWord (nx pKind (.ok b))))) (nx pWord (nx pKind (.ok b))) ∧ bd (nx pWord (nx pKind (.ok b))) (pBytes nb) = bd (nx pWord (nx pKind (.ok b))) (pBytes (lenS (nx pWord (nx pKind (.ok b)))))) := by
          have hh := HB2.out
          generalize nx pWord (nx pKind (.ok b)) = s2 at hh ⊢
          cases s2 with
          | error e => exact ⟨rfl, rfl⟩
          | ok l => rw [hh l rfl]; exact ⟨rfl, rfl⟩
        rw [HS.out.1] at h2
        rw [HS.out.2] at h3
        obtain ⟨B, d, rfl, hd1, hd2, hr⟩ := ho.rdX p1
        have HL := Lib.hid (And.intro (Rk.farB HT.out ho hr) (And.intro hd1 hd2))
        clear ho hr hd1 hd2 HS HB2 hb0 hb6
        generalize hlen : y.length = len at *
        have HLEN := Lib.hid hlen
        clear hlen
        have hT := HT.out.step h2 h4
        clear c0 c1 c2 c3 c4 c5 c6 c7 f0 f1 f2 f3 f4 f5 f6 f7
        obtain ⟨c0, c1, c2, c3, c4, c5, c6, c7, f0, f1, f2, f3, f4, f5, f6, f7⟩ := own_cells8 hT.2.1
        have HT := Lib.hid (hT.set 4 (.slice B len d))
        have HV1 := Lib.hid h3
        clear h2 h3 h4 hT
        have HL := Lib.hid (And.intro (HL.out.1.chg (chgSet w4 g5 4 (.slice B len d)) (fun k _ hk e => by omega)) HL.out.2)
        go_wp2_with fail
        refine (fover_any g4 _ _ HT.out.1).mono ?_
        rintro e wE ⟨⟨u, rfl⟩, hov, hE⟩
        obtain ⟨Ae, ne, ce, hOe⟩ := over_own hov
        obtain ⟨ec0, ec1, ef0, ef1⟩ := own_cells2 hOe
        have HL := Lib.hid (And.intro (HL.out.1.chg hE (fun k _ hk e => by have := HT.out.2.2.2.1; omega)) HL.out.2)
        clear c0 c1 c2 c3 c4 c5 c6 c7 f0 f1 f2 f3 f4 f5 f6 f7
        have hO := HT.out.2.1.chg hE (by have := HT.out.2.2.2.1; omega)
        obtain ⟨c0, c1, c2, c3, c4, c5, c6, c7, f0, f1, f2, f3, f4, f5, f6, f7⟩ := own_cells8 hO
        have hO2 := HT.out.2.2.1.chg hE (by have := HT.out.2.2.2.2.1; omega)
        obtain ⟨r0, r1, r2, r3, r4, r5, r6, r7, s0, s1, s2, s3, s4, s5, s6, s7⟩ := own_cells8 hO2
        have HB : Hid (Below w.heap.size w wE) := HT.out.2.2.2.2.2.2.trans (hE.below HT.out.2.2.2.2.2.2.size fun i hi e => by have := HT.out.2.2.2.2.1; have := HT.out.2.2.2.2.2.1; omega)
        have HK : Hid (takeReq b = bd (nx (pBytes (lenS (nx pWord (nx pKind (.ok b))))) (nx pWord (nx pKind (.ok b)))) fun l => done ((⟨1, tok, 0, [], y, [], 0, 0⟩ : Req), l)) := by
          unfold takeReq pReq
          rw [(nx_seq pKind _ (.ok b) _ HV0.out).2, (nx_seq pWord _ _ tok HVt.out).2, pRest_1]
          rw [whole_eq _ _ (fun y => (⟨1, tok, 0, [], y, [], 0, 0⟩ : Req)) HV1.out, bd_bd]
          rfl
        have HO2 := Lib.hid hO2
        have HF := Lib.hid (fin_cases _ HT.out.1.err (⟨1, tok, 0, [], y, [], 0, 0⟩ : Req))
        rw [← HK.out] at HF
        clear HK hO hO2 hE hov hOe
        generalize endS (nx (pBytes (lenS (nx pWord (nx pKind (.ok b))))) (nx pWord (nx pKind (.ok b)))) = ee at *
        rcases HF.out with ⟨rfl, hf1, hf2⟩ | ⟨hf0, hf1, hf2⟩
        · have HF1 := Lib.hid (And.intro hf1 hf2)
          clear hf1 hf2 HF
          go_wp2
          have hW := own_put8 HO2.out (.int .i64 1) (.int .u64 tok) (.int .u64 0) (.string ⟨#[]⟩) (.slice B len d) (.slice none 0 0) (.int .u64 0) (.int .u64 0)
          have hC := chg8 wE g2 #[.int .i64 1, .int .u64 tok, .int .u64 0, .string ⟨#[]⟩, .slice B len d, .slice none 0 0, .int .u64 0, .int .u64 0]
          show bodyPost _ _ _ _ _ (put8 wE g2 #[.int .i64 1, .int .u64 tok, .int .u64 0, .string ⟨#[]⟩, .slice B len d, .slice none 0 0, .int .u64 0, .int .u64 0])
          generalize put8 wE g2 #[.int .i64 1, .int .u64 tok, .int .u64 0, .string ⟨#[]⟩, .slice B len d, .slice none 0 0, .int .u64 0, .int .u64 0] = W at *
          clear c0 c1 c2 c3 c4 c5 c6 c7 f0 f1 f2 f3 f4 f5 f6 f7 r0 r1 r2 r3 r4 r5 r6 r7 s0 s1 s2 s3 s4 s5 s6 s7 ec0 ec1 ef0 ef1
          obtain ⟨k0, k1, k2, k3, k4, k5, k6, k7, -, -, -, -, -, -, -, -⟩ := own_cells8 hW
          refine bodyPost_ret (by simp [results, Try.results16, go_sem, k0, k1, k2, k3, k4, k5, k6, k7]; try rfl) rfl ?_
          obtain ⟨hf1, hf2⟩ := HF1.out
          refine ⟨_, by rw [hf1], ⟨B, d, none, 0, by rw [hf2]; simp only []; rw [HLEN.out]; rfl, by rw [hf2]; exact (HL.out.1.chg hC (fun k _ hk e => by have := HT.out.2.2.2.1; have := HT.out.2.2.2.2.1; omega)).mono (fun k _ hk => by have := HT.out.2.2.2.1; have := HT.out.2.2.2.2.1; have := HT.out.2.2.2.2.2.1; omega), by rw [hf2]; simp only []; rw [HLEN.out]; exact HL.out.2.1, HL.out.2.2, by rw [hf2]; exact RdU.nil _ _ _, by rw [hf2]; exact Nat.zero_le _, Nat.zero_le _, by rw [hf2]; exact ok_mk (by omega) (by omega) t0 t1 (by omega) (by omega) IsBytes.nil (by omega) (by omega) (by omega) (by omega)⟩, HB.out.trans (hC.below HB.out.size fun i hi e => by have := HT.out.2.2.2.2.2.1; omega)⟩
        · have HF1 := Lib.hid (And.intro hf1 hf2)
          have hf3 : (ee != 0) = true := by simpa using hf0
          clear hf1 hf2 HF hf0
          have hg24 : g2 < g4 := HT.out.2.2.2.2.1
          have hg42 : ¬ g4 = g2 := by omega
          have hg43 : ¬ g2 = g4 := by omega
          go_wp2
          go_region
          have hW := own_drew (own_put8 HO2.out (.int .i64 0) (.int .u64 0) (.int .u64 0) (.string ⟨#[]⟩) (.slice none 0 0) (.slice none 0 0) (.int .u64 0) (.int .u64 0))
          have hC := (chg8 wE g2 #[.int .i64 0, .int .u64 0, .int .u64 0, .string ⟨#[]⟩, .slice none 0 0, .slice none 0 0, .int .u64 0, .int .u64 0]).drew
          show Exit.then _ _ _ _ (put8 wE g2 #[.int .i64 0, .int .u64 0, .int .u64 0, .string ⟨#[]⟩, .slice none 0 0, .slice none 0 0, .int .u64 0, .int .u64 0]).drew
          generalize (put8 wE g2 #[.int .i64 0, .int .u64 0, .int .u64 0, .string ⟨#[]⟩, .slice none 0 0, .slice none 0 0, .int .u64 0, .int .u64 0]).drew = W at *
          clear c0 c1 c2 c3 c4 c5 c6 c7 f0 f1 f2 f3 f4 f5 f6 f7 r0 r1 r2 r3 r4 r5 r6 r7 s0 s1 s2 s3 s4 s5 s6 s7 ec0 ec1 ef0 ef1
          obtain ⟨k0, k1, k2, k3, k4, k5, k6, k7, -, -, -, -, -, -, -, -⟩ := own_cells8 hW
          go_wp2
          refine bodyPost_ret (by simp [results, Try.results16, go_sem, k0, k1, k2, k3, k4, k5, k6, k7]; try rfl) rfl ?_
          obtain ⟨hf1, hf2⟩ := HF1.out
          refine ⟨_, by rw [hf1], by rw [hf2]; exact zreq_v _ _, HB.out.trans (hC.below HB.out.size fun i hi e => by have := HT.out.2.2.2.2.2.1; omega)⟩
      · -- kind 2
        go_wp2_with fail
        refine (fU64_any g4 _ _ HT.out.1).mono ?_
        rintro e w4 ⟨hh, rfl, p1, q1, h2, h3, h4⟩
        have hT := HT.out.step h2 h4
        clear c0 c1 c2 c3 c4 c5 c6 c7 f0 f1 f2 f3 f4 f5 f6 f7
        obtain ⟨c0, c1, c2, c3, c4, c5, c6, c7, f0, f1, f2, f3, f4, f5, f6, f7⟩ := own_cells8 hT.2.1
        have HT := Lib.hid hT
        have HV1 := Lib.hid h3
        clear h2 h3 h4 hT
        go_wp2_with fail
        refine (fname_any g4 _ _ HT.out.1).mono ?_
        rintro e w5 ⟨nm, rfl, p2, h2, h3, h4, q2⟩
        have hT := HT.out.step h2 h4
        clear c0 c1 c2 c3 c4 c5 c6 c7 f0 f1 f2 f3 f4 f5 f6 f7
        obtain ⟨c0, c1, c2, c3, c4, c5, c6, c7, f0, f1, f2, f3, f4, f5, f6, f7⟩ := own_cells8 hT.2.1
        have HT := Lib.hid hT
        have HV2 := Lib.hid h3
        clear h2 h3 h4 hT
        have HT := Lib.hid ((HT.out.set 2 (.int .u64 hh)).set 3 (.string (strOfNums nm)))
        go_wp2_with fail
        refine (fover_any g4 _ _ HT.out.1).mono ?_
        rintro e wE ⟨⟨u, rfl⟩, hov, hE⟩
        obtain ⟨Ae, ne, ce, hOe⟩ := over_own hov
        obtain ⟨ec0, ec1, ef0, ef1⟩ := own_cells2 hOe
        clear c0 c1 c2 c3 c4 c5 c6 c7 f0 f1 f2 f3 f4 f5 f6 f7
        have hO := HT.out.2.1.chg hE (by have := HT.out.2.2.2.1; omega)
        obtain ⟨c0, c1, c2, c3, c4, c5, c6, c7, f0, f1, f2, f3, f4, f5, f6, f7⟩ := own_cells8 hO
        have hO2 := HT.out.2.2.1.chg hE (by have := HT.out.2.2.2.2.1; omega)
        obtain ⟨r0, r1, r2, r3, r4, r5, r6, r7, s0, s1, s2, s3, s4, s5, s6, s7⟩ := own_cells8 hO2
        have HB : Hid (Below w.heap.size w wE) := HT.out.2.2.2.2.2.2.trans (hE.below HT.out.2.2.2.2.2.2.size fun i hi e => by have := HT.out.2.2.2.2.1; have := HT.out.2.2.2.2.2.1; omega)
        have HK : Hid (takeReq b = bd (nx (pName 32) (nx (pU 64) (nx pWord (nx pKind (.ok b))))) fun l => done ((⟨2, tok, hh, nm, [], [], 0, 0⟩ : Req), l)) := by
          unfold takeReq pReq
          rw [(nx_seq pKind _ (.ok b) _ HV0.out).2, (nx_seq pWord _ _ tok HVt.out).2, pRest_2]
          rw [(nx_seq (pU 64) _ _ hh HV1.out).2]
          rw [(nx_seq (pName 32) _ _ nm HV2.out).2]
          rw [bd_bd]
          rfl
        have HO2 := Lib.hid hO2
        have HF := Lib.hid (fin_cases _ HT.out.1.err (⟨2, tok, hh, nm, [], [], 0, 0⟩ : Req))
        rw [← HK.out] at HF
        clear HK hO hO2 hE hov hOe
        generalize endS (nx (pName 32) (nx (pU 64) (nx pWord (nx pKind (.ok b))))) = ee at *
        rcases HF.out with ⟨rfl, hf1, hf2⟩ | ⟨hf0, hf1, hf2⟩
        · have HF1 := Lib.hid (And.intro hf1 hf2)
          clear hf1 hf2 HF
          go_wp2
          have hW := own_put8 HO2.out (.int .i64 2) (.int .u64 tok) (.int .u64 hh) (.string (strOfNums nm)) (.slice none 0 0) (.slice none 0 0) (.int .u64 0) (.int .u64 0)
          have hC := chg8 wE g2 #[.int .i64 2, .int .u64 tok, .int .u64 hh, .string (strOfNums nm), .slice none 0 0, .slice none 0 0, .int .u64 0, .int .u64 0]
          show bodyPost _ _ _ _ _ (put8 wE g2 #[.int .i64 2, .int .u64 tok, .int .u64 hh, .string (strOfNums nm), .slice none 0 0, .slice none 0 0, .int .u64 0, .int .u64 0])
          generalize put8 wE g2 #[.int .i64 2, .int .u64 tok, .int .u64 hh, .string (strOfNums nm), .slice none 0 0, .slice none 0 0, .int .u64 0, .int .u64 0] = W at *
          clear c0 c1 c2 c3 c4 c5 c6 c7 f0 f1 f2 f3 f4 f5 f6 f7 r0 r1 r2 r3 r4 r5 r6 r7 s0 s1 s2 s3 s4 s5 s6 s7 ec0 ec1 ef0 ef1
          obtain ⟨k0, k1, k2, k3, k4, k5, k6, k7, -, -, -, -, -, -, -, -⟩ := own_cells8 hW
          refine bodyPost_ret (by simp [results, Try.results16, go_sem, k0, k1, k2, k3, k4, k5, k6, k7]; try rfl) rfl ?_
          obtain ⟨hf1, hf2⟩ := HF1.out
          refine ⟨_, by rw [hf1], ⟨none, 0, none, 0, by rw [hf2]; rfl, by rw [hf2]; exact RdX.nil _ _ _, by rw [hf2]; exact Nat.zero_le _, Nat.zero_le _, by rw [hf2]; exact RdU.nil _ _ _, by rw [hf2]; exact Nat.zero_le _, Nat.zero_le _, by rw [hf2]; exact ok_mk (by omega) (by omega) t0 t1 p1 q1 p2 (by omega) (by omega) (by omega) (by omega)⟩, HB.out.trans (hC.below HB.out.size fun i hi e => by have := HT.out.2.2.2.2.2.1; omega)⟩
        · have HF1 := Lib.hid (And.intro hf1 hf2)
          have hf3 : (ee != 0) = true := by simpa using hf0
          clear hf1 hf2 HF hf0
          have hg24 : g2 < g4 := HT.out.2.2.2.2.1
          have hg42 : ¬ g4 = g2 := by omega
          have hg43 : ¬ g2 = g4 := by omega
          go_wp2
          go_region
          have hW := own_drew (own_put8 HO2.out (.int .i64 0) (.int .u64 0) (.int .u64 0) (.string ⟨#[]⟩) (.slice none 0 0) (.slice none 0 0) (.int .u64 0) (.int .u64 0))
          have hC := (chg8 wE g2 #[.int .i64 0, .int .u64 0, .int .u64 0, .string ⟨#[]⟩, .slice none 0 0, .slice none 0 0, .int .u64 0, .int .u64 0]).drew
          show Exit.then _ _ _ _ (put8 wE g2 #[.int .i64 0, .int .u64 0, .int .u64 0, .string ⟨#[]⟩, .slice none 0 0, .slice none 0 0, .int .u64 0, .int .u64 0]).drew
          generalize (put8 wE g2 #[.int .i64 0, .int .u64 0, .int .u64 0, .string ⟨#[]⟩, .slice none 0 0, .slice none 0 0, .int .u64 0, .int .u64 0]).drew = W at *
          clear c0 c1 c2 c3 c4 c5 c6 c7 f0 f1 f2 f3 f4 f5 f6 f7 r0 r1 r2 r3 r4 r5 r6 r7 s0 s1 s2 s3 s4 s5 s6 s7 ec0 ec1 ef0 ef1
          obtain ⟨k0, k1, k2, k3, k4, k5, k6, k7, -, -, -, -, -, -, -, -⟩ := own_cells8 hW
          go_wp2
          refine bodyPost_ret (by simp [results, Try.results16, go_sem, k0, k1, k2, k3, k4, k5, k6, k7]; try rfl) rfl ?_
          obtain ⟨hf1, hf2⟩ := HF1.out
          refine ⟨_, by rw [hf1], by rw [hf2]; exact zreq_v _ _, HB.out.trans (hC.below HB.out.size fun i hi e => by have := HT.out.2.2.2.2.2.1; omega)⟩
      · -- kind 3
        go_wp2_with fail
        refine (fname_any g4 _ _ HT.out.1).mono ?_
        rintro e w4 ⟨nm, rfl, p1, h2, h3, h4, q1⟩
        have hT := HT.out.step h2 h4
        clear c0 c1 c2 c3 c4 c5 c6 c7 f0 f1 f2 f3 f4 f5 f6 f7
        obtain ⟨c0, c1, c2, c3, c4, c5, c6, c7, f0, f1, f2, f3, f4, f5, f6, f7⟩ := own_cells8 hT.2.1
        have HT := Lib.hid (hT.set 3 (.string (strOfNums nm)))
        have HV1 := Lib.hid h3
        clear h2 h3 h4 hT
        go_wp2_with fail
        refine (fover_any g4 _ _ HT.out.1).mono ?_
        rintro e wE ⟨⟨u, rfl⟩, hov, hE⟩
        obtain ⟨Ae, ne, ce, hOe⟩ := over_own hov
        obtain ⟨ec0, ec1, ef0, ef1⟩ := own_cells2 hOe
        clear c0 c1 c2 c3 c4 c5 c6 c7 f0 f1 f2 f3 f4 f5 f6 f7
        have hO := HT.out.2.1.chg hE (by have := HT.out.2.2.2.1; omega)
        obtain ⟨c0, c1, c2, c3, c4, c5, c6, c7, f0, f1, f2, f3, f4, f5, f6, f7⟩ := own_cells8 hO
        have hO2 := HT.out.2.2.1.chg hE (by have := HT.out.2.2.2.2.1; omega)
        obtain ⟨r0, r1, r2, r3, r4, r5, r6, r7, s0, s1, s2, s3, s4, s5, s6, s7⟩ := own_cells8 hO2
        have HB : Hid (Below w.heap.size w wE) := HT.out.2.2.2.2.2.2.trans (hE.below HT.out.2.2.2.2.2.2.size fun i hi e => by have := HT.out.2.2.2.2.1; have := HT.out.2.2.2.2.2.1; omega)
        have HK : Hid (takeReq b = bd (nx (pName 32) (nx pWord (nx pKind (.ok b)))) fun l => done ((⟨3, tok, 0, nm, [], [], 0, 0⟩ : Req), l)) := by
          unfold takeReq pReq
          rw [(nx_seq pKind _ (.ok b) _ HV0.out).2, (nx_seq pWord _ _ tok HVt.out).2, pRest_3]
          rw [(nx_seq (pName 32) _ _ nm HV1.out).2]
          rw [bd_bd]
          rfl
        have HO2 := Lib.hid hO2
        have HF := Lib.hid (fin_cases _ HT.out.1.err (⟨3, tok, 0, nm, [], [], 0, 0⟩ : Req))
        rw [← HK.out] at HF
        clear HK hO hO2 hE hov hOe
        generalize endS (nx (pName 32) (nx pWord (nx pKind (.ok b)))) = ee at *
        rcases HF.out with ⟨rfl, hf1, hf2⟩ | ⟨hf0, hf1, hf2⟩
        · have HF1 := Lib.hid (And.intro hf1 hf2)
          clear hf1 hf2 HF
          go_wp2
          have hW := own_put8 HO2.out (.int .i64 3) (.int .u64 tok) (.int .u64 0) (.string (strOfNums nm)) (.slice none 0 0) (.slice none 0 0) (.int .u64 0) (.int .u64 0)
          have hC := chg8 wE g2 #[.int .i64 3, .int .u64 tok, .int .u64 0, .string (strOfNums nm), .slice none 0 0, .slice none 0 0, .int .u64 0, .int .u64 0]
          show bodyPost _ _ _ _ _ (put8 wE g2 #[.int .i64 3, .int .u64 tok, .int .u64 0, .string (strOfNums nm), .slice none 0 0, .slice none 0 0, .int .u64 0, .int .u64 0])
          generalize put8 wE g2 #[.int .i64 3, .int .u64 tok, .int .u64 0, .string (strOfNums nm), .slice none 0 0, .slice none 0 0, .int .u64 0, .int .u64 0] = W at *
          clear c0 c1 c2 c3 c4 c5 c6 c7 f0 f1 f2 f3 f4 f5 f6 f7 r0 r1 r2 r3 r4 r5 r6 r7 s0 s1 s2 s3 s4 s5 s6 s7 ec0 ec1 ef0 ef1
          obtain ⟨k0, k1, k2, k3, k4, k5, k6, k7, -, -, -, -, -, -, -, -⟩ := own_cells8 hW
          refine bodyPost_ret (by simp [results, Try.results16, go_sem, k0, k1, k2, k3, k4, k5, k6, k7]; try rfl) rfl ?_
          obtain ⟨hf1, hf2⟩ := HF1.out
          refine ⟨_, by rw [hf1], ⟨none, 0, none, 0, by rw [hf2]; rfl, by rw [hf2]; exact RdX.nil _ _ _, by rw [hf2]; exact Nat.zero_le _, Nat.zero_le _, by rw [hf2]; exact RdU.nil _ _ _, by rw [hf2]; exact Nat.zero_le _, Nat.zero_le _, by rw [hf2]; exact ok_mk (by omega) (by omega) t0 t1 (by omega) (by omega) p1 (by omega) (by omega) (by omega) (by omega)⟩, HB.out.trans (hC.below HB.out.size fun i hi e => by have := HT.out.2.2.2.2.2.1; omega)⟩
        · have HF1 := Lib.hid (And.intro hf1 hf2)
          have hf3 : (ee != 0) = true := by simpa using hf0
          clear hf1 hf2 HF hf0
          have hg24 : g2 < g4 := HT.out.2.2.2.2.1
          have hg42 : ¬ g4 = g2 := by omega
          have hg43 : ¬ g2 = g4 := by omega
          go_wp2
          go_region
          have hW := own_drew (own_put8 HO2.out (.int .i64 0) (.int .u64 0) (.int .u64 0) (.string ⟨#[]⟩) (.slice none 0 0) (.slice none 0 0) (.int .u64 0) (.int .u64 0))
          have hC := (chg8 wE g2 #[.int .i64 0, .int .u64 0, .int .u64 0, .string ⟨#[]⟩, .slice none 0 0, .slice none 0 0, .int .u64 0, .int .u64 0]).drew
          show Exit.then _ _ _ _ (put8 wE g2 #[.int .i64 0, .int .u64 0, .int .u64 0, .string ⟨#[]⟩, .slice none 0 0, .slice none 0 0, .int .u64 0, .int .u64 0]).drew
          generalize (put8 wE g2 #[.int .i64 0, .int .u64 0, .int .u64 0, .string ⟨#[]⟩, .slice none 0 0, .slice none 0 0, .int .u64 0, .int .u64 0]).drew = W at *
          clear c0 c1 c2 c3 c4 c5 c6 c7 f0 f1 f2 f3 f4 f5 f6 f7 r0 r1 r2 r3 r4 r5 r6 r7 s0 s1 s2 s3 s4 s5 s6 s7 ec0 ec1 ef0 ef1
          obtain ⟨k0, k1, k2, k3, k4, k5, k6, k7, -, -, -, -, -, -, -, -⟩ := own_cells8 hW
          go_wp2
          refine bodyPost_ret (by simp [results, Try.results16, go_sem, k0, k1, k2, k3, k4, k5, k6, k7]; try rfl) rfl ?_
          obtain ⟨hf1, hf2⟩ := HF1.out
          refine ⟨_, by rw [hf1], by rw [hf2]; exact zreq_v _ _, HB.out.trans (hC.below HB.out.size fun i hi e => by have := HT.out.2.2.2.2.2.1; omega)⟩
      · exact absurd HBX.out (H4N.out t)
      · -- kind 5
        go_wp2_with fail
        refine (fU64_any g4 _ _ HT.out.1).mono ?_
        rintro e w4 ⟨hh, rfl, p1, q1, h2, h3, h4⟩
        have hT := HT.out.step h2 h4
        clear c0 c1 c2 c3 c4 c5 c6 c7 f0 f1 f2 f3 f4 f5 f6 f7
        obtain ⟨c0, c1, c2, c3, c4, c5, c6, c7, f0, f1, f2, f3, f4, f5, f6, f7⟩ := own_cells8 hT.2.1
        have HT := Lib.hid (hT.set 2 (.int .u64 hh))
        have HV1 := Lib.hid h3
        clear h2 h3 h4 hT
        go_wp2_with fail
        refine (fover_any g4 _ _ HT.out.1).mono ?_
        rintro e wE ⟨⟨u, rfl⟩, hov, hE⟩
        obtain ⟨Ae, ne, ce, hOe⟩ := over_own hov
        obtain ⟨ec0, ec1, ef0, ef1⟩ := own_cells2 hOe
        clear c0 c1 c2 c3 c4 c5 c6 c7 f0 f1 f2 f3 f4 f5 f6 f7
        have hO := HT.out.2.1.chg hE (by have := HT.out.2.2.2.1; omega)
        obtain ⟨c0, c1, c2, c3, c4, c5, c6, c7, f0, f1, f2, f3, f4, f5, f6, f7⟩ := own_cells8 hO
        have hO2 := HT.out.2.2.1.chg hE (by have := HT.out.2.2.2.2.1; omega)
        obtain ⟨r0, r1, r2, r3, r4, r5, r6, r7, s0, s1, s2, s3, s4, s5, s6, s7⟩ := own_cells8 hO2
        have HB : Hid (Below w.heap.size w wE) := HT.out.2.2.2.2.2.2.trans (hE.below HT.out.2.2.2.2.2.2.size fun i hi e => by have := HT.out.2.2.2.2.1; have := HT.out.2.2.2.2.2.1; omega)
        have HK : Hid (takeReq b = bd (nx (pU 64) (nx pWord (nx pKind (.ok b)))) fun l => done ((⟨5, tok, hh, [], [], [], 0, 0⟩ : Req), l)) := by
          unfold takeReq pReq
          rw [(nx_seq pKind _ (.ok b) _ HV0.out).2, (nx_seq pWord _ _ tok HVt.out).2, pRest_5]
          rw [(nx_seq (pU 64) _ _ hh HV1.out).2]
          rw [bd_bd]
          rfl
        have HO2 := Lib.hid hO2
        have HF := Lib.hid (fin_cases _ HT.out.1.err (⟨5, tok, hh, [], [], [], 0, 0⟩ : Req))
        rw [← HK.out] at HF
        clear HK hO hO2 hE hov hOe
        generalize endS (nx (pU 64) (nx pWord (nx pKind (.ok b)))) = ee at *
        rcases HF.out with ⟨rfl, hf1, hf2⟩ | ⟨hf0, hf1, hf2⟩
        · have HF1 := Lib.hid (And.intro hf1 hf2)
          clear hf1 hf2 HF
          go_wp2
          have hW := own_put8 HO2.out (.int .i64 5) (.int .u64 tok) (.int .u64 hh) (.string ⟨#[]⟩) (.slice none 0 0) (.slice none 0 0) (.int .u64 0) (.int .u64 0)
          have hC := chg8 wE g2 #[.int .i64 5, .int .u64 tok, .int .u64 hh, .string ⟨#[]⟩, .slice none 0 0, .slice none 0 0, .int .u64 0, .int .u64 0]
          show bodyPost _ _ _ _ _ (put8 wE g2 #[.int .i64 5, .int .u64 tok, .int .u64 hh, .string ⟨#[]⟩, .slice none 0 0, .slice none 0 0, .int .u64 0, .int .u64 0])
          generalize put8 wE g2 #[.int .i64 5, .int .u64 tok, .int .u64 hh, .string ⟨#[]⟩, .slice none 0 0, .slice none 0 0, .int .u64 0, .int .u64 0] = W at *
          clear c0 c1 c2 c3 c4 c5 c6 c7 f0 f1 f2 f3 f4 f5 f6 f7 r0 r1 r2 r3 r4 r5 r6 r7 s0 s1 s2 s3 s4 s5 s6 s7 ec0 ec1 ef0 ef1
          obtain ⟨k0, k1, k2, k3, k4, k5, k6, k7, -, -, -, -, -, -, -, -⟩ := own_cells8 hW
          refine bodyPost_ret (by simp [results, Try.results16, go_sem, k0, k1, k2, k3, k4, k5, k6, k7]; try rfl) rfl ?_
          obtain ⟨hf1, hf2⟩ := HF1.out
          refine ⟨_, by rw [hf1], ⟨none, 0, none, 0, by rw [hf2]; rfl, by rw [hf2]; exact RdX.nil _ _ _, by rw [hf2]; exact Nat.zero_le _, Nat.zero_le _, by rw [hf2]; exact RdU.nil _ _ _, by rw [hf2]; exact Nat.zero_le _, Nat.zero_le _, by rw [hf2]; exact ok_mk (by omega) (by omega) t0 t1 p1 q1 IsBytes.nil (by omega) (by omega) (by omega) (by omega)⟩, HB.out.trans (hC.below HB.out.size fun i hi e => by have := HT.out.2.2.2.2.2.1; omega)⟩
        · have HF1 := Lib.hid (And.intro hf1 hf2)
          have hf3 : (ee != 0) = true := by simpa using hf0
          clear hf1 hf2 HF hf0
          have hg24 : g2 < g4 := HT.out.2.2.2.2.1
          have hg42 : ¬ g4 = g2 := by omega
          have hg43 : ¬ g2 = g4 := by omega
          go_wp2
          go_region
          have hW := own_drew (own_put8 HO2.out (.int .i64 0) (.int .u64 0) (.int .u64 0) (.string ⟨#[]⟩) (.slice none 0 0) (.slice none 0 0) (.int .u64 0) (.int .u64 0))
          have hC := (chg8 wE g2 #[.int .i64 0, .int .u64 0, .int .u64 0, .string ⟨#[]⟩, .slice none 0 0, .slice none 0 0, .int .u64 0, .int .u64 0]).drew
          show Exit.then _ _ _ _ (put8 wE g2 #[.int .i64 0, .int .u64 0, .int .u64 0, .string ⟨#[]⟩, .slice none 0 0, .slice none 0 0, .int .u64 0, .int .u64 0]).drew
          generalize (put8 wE g2 #[.int .i64 0, .int .u64 0, .int .u64 0, .string ⟨#[]⟩, .slice none 0 0, .slice none 0 0, .int .u64 0, .int .u64 0]).drew = W at *
          clear c0 c1 c2 c3 c4 c5 c6 c7 f0 f1 f2 f3 f4 f5 f6 f7 r0 r1 r2 r3 r4 r5 r6 r7 s0 s1 s2 s3 s4 s5 s6 s7 ec0 ec1 ef0 ef1
          obtain ⟨k0, k1, k2, k3, k4, k5, k6, k7, -, -, -, -, -, -, -, -⟩ := own_cells8 hW
          go_wp2
          refine bodyPost_ret (by simp [results, Try.results16, go_sem, k0, k1, k2, k3, k4, k5, k6, k7]; try rfl) rfl ?_
          obtain ⟨hf1, hf2⟩ := HF1.out
          refine ⟨_, by rw [hf1], by rw [hf2]; exact zreq_v _ _, HB.out.trans (hC.below HB.out.size fun i hi e => by have := HT.out.2.2.2.2.2.1; omega)⟩
      · -- kind 6
        go_wp2_with fail
        refine (feight_any g4 _ _ HT.out.1).mono ?_
        rintro e w4 ⟨oo, rfl, p1, q1, h2, h3, h4⟩
        have hT := HT.out.step h2 h4
        clear c0 c1 c2 c3 c4 c5 c6 c7 f0 f1 f2 f3 f4 f5 f6 f7
        obtain ⟨c0, c1, c2, c3, c4, c5, c6, c7, f0, f1, f2, f3, f4, f5, f6, f7⟩ := own_cells8 hT.2.1
        have HT := Lib.hid (hT.set 7 (.int .u64 oo))
        have HV1 := Lib.hid h3
        clear h2 h3 h4 hT
        go_wp2_with fail
        refine (fover_any g4 _ _ HT.out.1).mono ?_
        rintro e wE ⟨⟨u, rfl⟩, hov, hE⟩
        obtain ⟨Ae, ne, ce, hOe⟩ := over_own hov
        obtain ⟨ec0, ec1, ef0, ef1⟩ := own_cells2 hOe
        clear c0 c1 c2 c3 c4 c5 c6 c7 f0 f1 f2 f3 f4 f5 f6 f7
        have hO := HT.out.2.1.chg hE (by have := HT.out.2.2.2.1; omega)
        obtain ⟨c0, c1, c2, c3, c4, c5, c6, c7, f0, f1, f2, f3, f4, f5, f6, f7⟩ := own_cells8 hO
        have hO2 := HT.out.2.2.1.chg hE (by have := HT.out.2.2.2.2.1; omega)
        obtain ⟨r0, r1, r2, r3, r4, r5, r6, r7, s0, s1, s2, s3, s4, s5, s6, s7⟩ := own_cells8 hO2
        have HB : Hid (Below w.heap.size w wE) := HT.out.2.2.2.2.2.2.trans (hE.below HT.out.2.2.2.2.2.2.size fun i hi e => by have := HT.out.2.2.2.2.1; have := HT.out.2.2.2.2.2.1; omega)
        have HK : Hid (takeReq b = bd (nx (pWord) (nx pWord (nx pKind (.ok b)))) fun l => done ((⟨6, tok, 0, [], [], [], 0, oo⟩ : Req), l)) := by
          unfold takeReq pReq
          rw [(nx_seq pKind _ (.ok b) _ HV0.out).2, (nx_seq pWord _ _ tok HVt.out).2, pRest_6]
          rw [(nx_seq (pWord) _ _ oo HV1.out).2]
          rw [bd_bd]
          rfl
        have HO2 := Lib.hid hO2
        have HF := Lib.hid (fin_cases _ HT.out.1.err (⟨6, tok, 0, [], [], [], 0, oo⟩ : Req))
        rw [← HK.out] at HF
        clear HK hO hO2 hE hov hOe
        generalize endS (nx (pWord) (nx pWord (nx pKind (.ok b)))) = ee at *
        rcases HF.out with ⟨rfl, hf1, hf2⟩ | ⟨hf0, hf1, hf2⟩
        · have HF1 := Lib.hid (And.intro hf1 hf2)
          clear hf1 hf2 HF
          go_wp2
          have hW := own_put8 HO2.out (.int .i64 6) (.int .u64 tok) (.int .u64 0) (.string ⟨#[]⟩) (.slice none 0 0) (.slice none 0 0) (.int .u64 0) (.int .u64 oo)
          have hC := chg8 wE g2 #[.int .i64 6, .int .u64 tok, .int .u64 0, .string ⟨#[]⟩, .slice none 0 0, .slice none 0 0, .int .u64 0, .int .u64 oo]
          show bodyPost _ _ _ _ _ (put8 wE g2 #[.int .i64 6, .int .u64 tok, .int .u64 0, .string ⟨#[]⟩, .slice none 0 0, .slice none 0 0, .int .u64 0, .int .u64 oo])
          generalize put8 wE g2 #[.int .i64 6, .int .u64 tok, .int .u64 0, .string ⟨#[]⟩, .slice none 0 0, .slice none 0 0, .int .u64 0, .int .u64 oo] = W at *
          clear c0 c1 c2 c3 c4 c5 c6 c7 f0 f1 f2 f3 f4 f5 f6 f7 r0 r1 r2 r3 r4 r5 r6 r7 s0 s1 s2 s3 s4 s5 s6 s7 ec0 ec1 ef0 ef1
          obtain ⟨k0, k1, k2, k3, k4, k5, k6, k7, -, -, -, -, -, -, -, -⟩ := own_cells8 hW
          refine bodyPost_ret (by simp [results, Try.results16, go_sem, k0, k1, k2, k3, k4, k5, k6, k7]; try rfl) rfl ?_
          obtain ⟨hf1, hf2⟩ := HF1.out
          refine ⟨_, by rw [hf1], ⟨none, 0, none, 0, by rw [hf2]; rfl, by rw [hf2]; exact RdX.nil _ _ _, by rw [hf2]; exact Nat.zero_le _, Nat.zero_le _, by rw [hf2]; exact RdU.nil _ _ _, by rw [hf2]; exact Nat.zero_le _, Nat.zero_le _, by rw [hf2]; exact ok_mk (by omega) (by omega) t0 t1 (by omega) (by omega) IsBytes.nil (by omega) (by omega) p1 q1⟩, HB.out.trans (hC.below HB.out.size fun i hi e => by have := HT.out.2.2.2.2.2.1; omega)⟩
        · have HF1 := Lib.hid (And.intro hf1 hf2)
          have hf3 : (ee != 0) = true := by simpa using hf0
          clear hf1 hf2 HF hf0
          have hg24 : g2 < g4 := HT.out.2.2.2.2.1
          have hg42 : ¬ g4 = g2 := by omega
          have hg43 : ¬ g2 = g4 := by omega
          go_wp2
          go_region
          have hW := own_drew (own_put8 HO2.out (.int .i64 0) (.int .u64 0) (.int .u64 0) (.string ⟨#[]⟩) (.slice none 0 0) (.slice none 0 0) (.int .u64 0) (.int .u64 0))
          have hC := (chg8 wE g2 #[.int .i64 0, .int .u64 0, .int .u64 0, .string ⟨#[]⟩, .slice none 0 0, .slice none 0 0, .int .u64 0, .int .u64 0]).drew
          show Exit.then _ _ _ _ (put8 wE g2 #[.int .i64 0, .int .u64 0, .int .u64 0, .string ⟨#[]⟩, .slice none 0 0, .slice none 0 0, .int .u64 0, .int .u64 0]).drew
          generalize (put8 wE g2 #[.int .i64 0, .int .u64 0, .int .u64 0, .string ⟨#[]⟩, .slice none 0 0, .slice none 0 0, .int .u64 0, .int .u64 0]).drew = W at *
          clear c0 c1 c2 c3 c4 c5 c6 c7 f0 f1 f2 f3 f4 f5 f6 f7 r0 r1 r2 r3 r4 r5 r6 r7 s0 s1 s2 s3 s4 s5 s6 s7 ec0 ec1 ef0 ef1
          obtain ⟨k0, k1, k2, k3, k4, k5, k6, k7, -, -, -, -, -, -, -, -⟩ := own_cells8 hW
          go_wp2
          refine bodyPost_ret (by simp [results, Try.results16, go_sem, k0, k1, k2, k3, k4, k5, k6, k7]; try rfl) rfl ?_
          obtain ⟨hf1, hf2⟩ := HF1.out
          refine ⟨_, by rw [hf1], by rw [hf2]; exact zreq_v _ _, HB.out.trans (hC.below HB.out.size fun i hi e => by have := HT.out.2.2.2.2.2.1; omega)⟩
end Go.Proofs.Ytnjbijndfbobbaa
