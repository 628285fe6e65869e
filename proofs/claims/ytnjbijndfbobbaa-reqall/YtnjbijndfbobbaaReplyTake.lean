/- req.TakeReply: which reply bytes are. -/
import Derived.Test.YtnjbijndfbobbaaReqTake
namespace Go.Proofs.Ytnjbijndfbobbaa
open Go.RowKit
set_option maxRecDepth 100000
set_option linter.unusedVariables false

structure Rep where
  token : Int
  err : Int
  handle : Int
  values : List Int
deriving DecidableEq
def zrep : Rep := ⟨0, 0, 0, []⟩
def pRep : PR Rep := seq pWord fun tok => seq pByte fun e => seq (pU 64) fun h => seq (pList 8) fun xs l => .ok (⟨tok, e, h, xs⟩, l)
def repEnd (r : Rep × List Int) : Except Int Rep := if 17 < r.1.err then .error 2 else done r
def takeRep (b : List Int) : Except Int Rep := bd (bd (.ok b) pRep) repEnd
def repOf (x : Except Int Rep) : Rep := match x with
  | .error _ => zrep
  | .ok q => q
def Rep.Ok (q : Rep) : Prop := (0 ≤ q.token ∧ q.token < 18446744073709551616) ∧ (-9223372036854775808 ≤ q.err ∧ q.err < 9223372036854775808) ∧ (0 ≤ q.handle ∧ q.handle < 18446744073709551616)
/-- A reply, as a value. -/
def RepV (X : Nat → Prop) (w : World) (v : Value) (q : Rep) : Prop :=
  ∃ B d, v = .agg #[.int .u64 q.token, .int .i64 q.err, .int .u64 q.handle, .slice B q.values.length d] ∧ RdU X w B q.values ∧ q.values.length ≤ d ∧ d ≤ maxLen ∧ q.Ok
def RTakePost (b : List Int) (w : World) (e : Ending) (w' : World) : Prop :=
  ∃ v, e = .returned (.tuple #[v, .int .i64 (codeOf (takeRep b))]) ∧ RepV (fun k => w.heap.size ≤ k) w' v (repOf (takeRep b)) ∧ Below w.heap.size w w'
theorem zrep_v (X : Nat → Prop) (w : World) : RepV X w (.agg #[.int .u64 0, .int .i64 0, .int .u64 0, .slice none 0 0]) zrep :=
  ⟨none, 0, rfl, RdU.nil _ _ _, Nat.le_refl _, Nat.zero_le _, ⟨by decide, by decide⟩, ⟨by decide, by decide⟩, ⟨by decide, by decide⟩⟩
theorem rfin_cases (s : St) (hs : ∀ e, s = .error e → 0 < e) (rq : Rep) (s5 : St) (h5 : s5 = if 17 < rq.err then failS 2 s else s) :
    (endS s5 = 0 ∧ codeOf (bd s fun l => repEnd (rq, l)) = 0 ∧ repOf (bd s fun l => repEnd (rq, l)) = rq) ∨ (endS s5 ≠ 0 ∧ codeOf (bd s fun l => repEnd (rq, l)) = endS s5 ∧ repOf (bd s fun l => repEnd (rq, l)) = zrep) := by
  subst h5
  rcases s with e | (_ | ⟨x, l⟩)
  · have := hs e rfl
    right
    split
    · exact ⟨by simp only [failS, endS]; omega, rfl, rfl⟩
    · exact ⟨by simp only [endS]; omega, rfl, rfl⟩
  · by_cases h : 17 < rq.err
    · right; simp [h, failS, endS, repEnd, codeOf, repOf]
    · left; simp [h, endS, repEnd, codeOf, repOf, done]
  · right
    by_cases h : 17 < rq.err
    · simp [h, failS, endS, repEnd, codeOf, repOf]
    · simp [h, endS, repEnd, codeOf, repOf, done]
theorem own_cells4 {w : World} {g : Nat} {t : TypeId} {a0 a1 a2 a3 : Value} (h : Own w g t [a0, a1, a2, a3]) :
    w.cell? ⟨g, 0, none⟩ = some a0 ∧ w.cell? ⟨g, 1, none⟩ = some a1 ∧ w.cell? ⟨g, 2, none⟩ = some a2 ∧ w.cell? ⟨g, 3, none⟩ = some a3 ∧ w.frozen? ⟨g, 0, none⟩ = false ∧ w.frozen? ⟨g, 1, none⟩ = false ∧ w.frozen? ⟨g, 2, none⟩ = false ∧ w.frozen? ⟨g, 3, none⟩ = false :=
  ⟨h.cell 0, h.cell 1, h.cell 2, h.cell 3, h.frozen 0, h.frozen 1, h.frozen 2, h.frozen 3⟩
def put4 (w : World) (g : Nat) (a : Array Value) : World := (((w.setCell ⟨g, 0, none⟩ (a.getD 0 undef)).setCell ⟨g, 1, none⟩ (a.getD 1 undef)).setCell ⟨g, 2, none⟩ (a.getD 2 undef)).setCell ⟨g, 3, none⟩ (a.getD 3 undef)
theorem chg4 (w : World) (g : Nat) (a : Array Value) : Chg (fun k => k = g) w (put4 w g a) :=
  (((chgSet w g 0 _).trans (chgSet _ g 1 _) fun _ _ e => e).trans (chgSet _ g 2 _) fun _ _ e => e).trans (chgSet _ g 3 _) fun _ _ e => e
theorem own_put4 {w : World} {g : Nat} {t : TypeId} {b0 b1 b2 b3 : Value} (h : Own w g t [b0, b1, b2, b3]) (a0 a1 a2 a3 : Value) : Own (put4 w g #[a0, a1, a2, a3]) g t [a0, a1, a2, a3] :=
  (((h.set 0 a0).set 1 a1).set 2 a2).set 3 a3

set_option maxHeartbeats 2000000 in
theorem take_rep (A : Option Addr) (b : List Int) (n c : Nat) (w : World) (h : Rd w w.heap.size A b) (hn : n = b.length) (hl : n ≤ 1000000) (hc : n ≤ c) (hcm : c ≤ maxLen) :
    Calls Try.prog 26 #[.slice A n c] w (RTakePost b w) := by
  have HR := Lib.hid h
  have HN := Lib.hid hn
  clear h hn
  go_enter Try.func26, Try.ntmps26
  go_wp2_with fail
  refine (rnew_any A n c _).mono ?_
  rintro e w1 ⟨rfl, hb1⟩
  have HT0 : Hid (Tk 41 n [.int .u64 0, .int .i64 0, .int .u64 0, .slice none 0 0] w w.heap.size w1.heap.size (w1.heap.size + 1) [.int .u64 0, .int .i64 0, .int .u64 0, .slice none 0 0] (.ok b) ((w1.alloc (.cells #[.slice A n c, .int .i64 0, .int .i64 0] 72)).alloc (.cells #[.int .u64 0, .int .i64 0, .int .u64 0, .slice none 0 0] 41))) := by
    have hs := hb1.size
    simp at hs
    have hw1 : Below w.heap.size w w1 := ((Below.refl _ _).alloc (Nat.le_refl _) _).trans (hb1.mono (by simp))
    have hR1 := (HR.out.rx.later hw1).mono (Y := (· < w1.heap.size)) fun k _ hk => by have : k < w.heap.size := hk; omega
    have hA := (Below.refl w1.heap.size w1).alloc (Nat.le_refl _) (.cells #[.slice A n c, .int .i64 0, .int .i64 0] 72)
    have hB := (Below.refl (w1.heap.size + 1) (w1.alloc (.cells #[.slice A n c, .int .i64 0, .int .i64 0] 72))).alloc (by simp) (.cells #[.int .u64 0, .int .i64 0, .int .u64 0, .slice none 0 0] 41)
    have e1 : (w1.alloc (.cells #[.slice A n c, .int .i64 0, .int .i64 0] 72)).heap.size = w1.heap.size + 1 := by simp
    refine ⟨⟨A, c, 0, ?_, ?_, by rw [← HN.out]; exact hc, hcm, by rw [← HN.out]; exact hl, by have := HN.out; simp only []; omega, by have := HN.out; simp only []; omega, by simp only []; omega⟩, ?_, ?_, by omega, by omega, Nat.le_refl _, hw1.trans ((hA.mono (by omega)).trans (hB.mono (by omega)))⟩
    · rw [← HN.out]
      exact (Own.new w1 72 [.slice A n c, .int .i64 0, .int .i64 0]).later (by rw [e1]; exact hB)
    · exact (hR1.later hA).later (by rw [e1]; exact hB)
    · have := Own.new (w1.alloc (.cells #[.slice A n c, .int .i64 0, .int .i64 0] 72)) 41 [.int .u64 0, .int .i64 0, .int .u64 0, .slice none 0 0]
      rw [e1] at this
      exact this
    · have h2 := (Own.new w 41 [.int .u64 0, .int .i64 0, .int .u64 0, .slice none 0 0]).later hb1
      exact (h2.later hA).later (by rw [e1]; exact hB)
  clear hb1
  go_wp2_with fail
  generalize w1.heap.size + 1 = g5 at *
  generalize w1.heap.size = g4 at *
  generalize hg2 : w.heap.size = g2 at HT0 ⊢
  clear hg2
  refine (sword_any g4 _ _ _ _ HT0.out.1).mono ?_
  rintro e w2 ⟨tok, rfl, t0, t1, h2, h3, h4⟩
  have hT := HT0.out.step h2 h4
  obtain ⟨c0, c1, c2, c3, f0, f1, f2, f3⟩ := own_cells4 hT.2.1
  have HT := Lib.hid (hT.set 0 (.int .u64 tok))
  have HV0 := Lib.hid h3
  clear h2 h3 h4 hT HT0
  go_wp2_with fail
  refine (rbyte_any g4 _ _ _ _ HT.out.1).mono ?_
  rintro e w3 ⟨er, rfl, r0, r1, h2, h3, h4⟩
  have hT := HT.out.step h2 h4
  clear c0 c1 c2 c3 f0 f1 f2 f3
  obtain ⟨c0, c1, c2, c3, f0, f1, f2, f3⟩ := own_cells4 hT.2.1
  have HT := Lib.hid (hT.set 1 (.int .i64 er))
  have HV1 := Lib.hid h3
  clear h2 h3 h4 hT
  go_wp2_with fail
  refine (rU64_any g4 _ _ _ _ HT.out.1).mono ?_
  rintro e w4 ⟨hh, rfl, p0, p1, h2, h3, h4⟩
  have hT := HT.out.step h2 h4
  clear c0 c1 c2 c3 f0 f1 f2 f3
  obtain ⟨c0, c1, c2, c3, f0, f1, f2, f3⟩ := own_cells4 hT.2.1
  have HT := Lib.hid (hT.set 2 (.int .u64 hh))
  have HV2 := Lib.hid h3
  clear h2 h3 h4 hT
  go_wp2_with fail
  refine (slist_any g4 _ _ _ _ HT.out.1).mono ?_
  rintro e w5 ⟨v5, xs, rfl, ho, hxs, h2, h3, h4, hx8⟩
  obtain ⟨B, d, rfl, hd1, hd2, hr⟩ := ho.rdU hxs
  have HL := Lib.hid (And.intro (Tk.farU HT.out ho hr) (And.intro hd1 hd2))
  clear ho hr hd1 hd2
  generalize hlen : xs.length = len at *
  have HLEN := Lib.hid hlen
  clear hlen
  have hT := HT.out.step h2 h4
  clear c0 c1 c2 c3 f0 f1 f2 f3
  obtain ⟨c0, c1, c2, c3, f0, f1, f2, f3⟩ := own_cells4 hT.2.1
  have HT := Lib.hid (hT.set 3 (.slice B len d))
  have HV3 := Lib.hid h3
  clear h2 h3 h4 hT
  have HL := Lib.hid (And.intro (HL.out.1.chg (chgSet w5 g5 3 (.slice B len d)) (fun k _ hk e => by omega)) HL.out.2)
  have HK : Hid (takeRep b = bd (nx (pList 8) (nx (pU 64) (nx pByte (nx pWord (.ok b))))) fun l => repEnd ((⟨tok, er, hh, xs⟩ : Rep), l)) := by
    unfold takeRep pRep
    rw [(nx_seq pWord _ (.ok b) _ HV0.out).2, (nx_seq pByte _ _ er HV1.out).2, (nx_seq (pU 64) _ _ hh HV2.out).2, (nx_seq (pList 8) _ _ xs HV3.out).2, bd_bd]
    rfl
  generalize nx (pList 8) (nx (pU 64) (nx pByte (nx pWord (.ok b)))) = s4 at *
  have fwd : ∀ P : Prop, (17 < er → P) → (¬ 17 < er → P) → P := fun P h1 h2 => by
    by_cases h : 17 < er
    · exact h1 h
    · exact h2 h
  refine fwd _ ?one ?two
  case' one =>
    intro her
    clear fwd
    go_wp2_with fail
    refine (rfail_any g4 _ _ _ 2 _ HT.out.1 (by omega) (by omega)).mono ?_
    rintro e w6 ⟨⟨u, rfl⟩, h2, h4⟩
    have HT6 := Lib.hid (HT.out.step h2 h4)
    have HL := Lib.hid (And.intro (HL.out.1.chg h4 (fun k _ hk e => by have := HT.out.2.2.2.1; omega)) HL.out.2)
    have HF := Lib.hid (rfin_cases s4 HT.out.1.err (⟨tok, er, hh, xs⟩ : Rep) (failS 2 s4) (by rw [if_pos her]))
    clear h2 h4
  case' two =>
    intro her
    clear fwd
    have HF := Lib.hid (rfin_cases s4 HT.out.1.err (⟨tok, er, hh, xs⟩ : Rep) s4 (by rw [if_neg her]))
    have HT6 := HT
  all_goals
    rw [← HK.out] at HF
    go_wp2_with fail
    refine (rend_any g4 _ _ _ _ HT6.out.1).mono ?_
    rintro e wE ⟨rfl, hE⟩
    have HL := Lib.hid (And.intro (HL.out.1.chg hE (fun k _ hk e => by have := HT.out.2.2.2.1; omega)) HL.out.2)
    clear c0 c1 c2 c3 f0 f1 f2 f3
    have hO := HT6.out.2.1.chg hE (by have := HT.out.2.2.2.1; omega)
    obtain ⟨c0, c1, c2, c3, f0, f1, f2, f3⟩ := own_cells4 hO
    have hO2 := HT6.out.2.2.1.chg hE (by have := HT.out.2.2.2.2.1; omega)
    obtain ⟨q0, q1, q2, q3, s0, s1, s2, s3⟩ := own_cells4 hO2
    have HB : Hid (Below w.heap.size w wE) := HT6.out.2.2.2.2.2.2.trans (hE.below HT6.out.2.2.2.2.2.2.size fun i hi e => by have := HT.out.2.2.2.2.1; have := HT.out.2.2.2.2.2.1; omega)
    have HO2 := Lib.hid hO2
    clear HK hO hO2 hE
    generalize endS _ = ee at *
    rcases HF.out with ⟨rfl, hf1, hf2⟩ | ⟨hf0, hf1, hf2⟩
    · have HF1 := Lib.hid (And.intro hf1 hf2)
      clear hf1 hf2 HF
      go_wp2
      have hW := own_put4 HO2.out (.int .u64 tok) (.int .i64 er) (.int .u64 hh) (.slice B len d)
      have hC := chg4 wE g2 #[.int .u64 tok, .int .i64 er, .int .u64 hh, .slice B len d]
      show bodyPost _ _ _ _ _ (put4 wE g2 #[.int .u64 tok, .int .i64 er, .int .u64 hh, .slice B len d])
      generalize put4 wE g2 #[.int .u64 tok, .int .i64 er, .int .u64 hh, .slice B len d] = W at *
      clear c0 c1 c2 c3 f0 f1 f2 f3 q0 q1 q2 q3 s0 s1 s2 s3
      obtain ⟨k0, k1, k2, k3, -, -, -, -⟩ := own_cells4 hW
      refine bodyPost_ret (by simp [results, Try.results26, go_sem, k0, k1, k2, k3]; try rfl) rfl ?_
      obtain ⟨hf1, hf2⟩ := HF1.out
      refine ⟨_, by rw [hf1], ⟨B, d, by rw [hf2]; simp only []; rw [HLEN.out], by rw [hf2]; exact (HL.out.1.chg hC (fun k _ hk e => by have := HT.out.2.2.2.1; have := HT.out.2.2.2.2.1; omega)).mono (fun k _ hk => by have := HT.out.2.2.2.1; have := HT.out.2.2.2.2.1; have := HT.out.2.2.2.2.2.1; omega), by rw [hf2]; simp only []; rw [HLEN.out]; exact HL.out.2.1, HL.out.2.2, by rw [hf2]; exact ⟨⟨t0, by simp only []; omega⟩, ⟨by simp only []; omega, by simp only []; omega⟩, ⟨p0, by simp only []; omega⟩⟩⟩, HB.out.trans (hC.below HB.out.size fun i hi e => by have := HT.out.2.2.2.2.2.1; omega)⟩
    · have HF1 := Lib.hid (And.intro hf1 hf2)
      have hf3 : (ee != 0) = true := by simpa using hf0
      clear hf1 hf2 HF hf0
      go_wp2
      have hW := own_put4 HO2.out (.int .u64 0) (.int .i64 0) (.int .u64 0) (.slice none 0 0)
      have hC := chg4 wE g2 #[.int .u64 0, .int .i64 0, .int .u64 0, .slice none 0 0]
      show bodyPost _ _ _ _ _ (put4 wE g2 #[.int .u64 0, .int .i64 0, .int .u64 0, .slice none 0 0])
      generalize put4 wE g2 #[.int .u64 0, .int .i64 0, .int .u64 0, .slice none 0 0] = W at *
      clear c0 c1 c2 c3 f0 f1 f2 f3 q0 q1 q2 q3 s0 s1 s2 s3
      obtain ⟨k0, k1, k2, k3, -, -, -, -⟩ := own_cells4 hW
      refine bodyPost_ret (by simp [results, Try.results26, go_sem, k0, k1, k2, k3]; try rfl) rfl ?_
      obtain ⟨hf1, hf2⟩ := HF1.out
      refine ⟨_, by rw [hf1], by rw [hf2]; exact zrep_v _ _, HB.out.trans (hC.below HB.out.size fun i hi e => by have := HT.out.2.2.2.2.2.1; omega)⟩
end Go.Proofs.Ytnjbijndfbobbaa
