/- The document's reader of instructions. (Written by gen_RefIn.py.) -/
import Derived.Test.YtdbbcbffmbcjiaaJoin12
import Derived.Test.YtdbbcbffmbcjiaaJoin13
import Derived.Test.YtdbbcbffmbcjiaaJoin8
namespace Go.Proofs.Ytdbbcbffmbcjiaa
open Go.RowKit
set_option maxRecDepth 100000
set_option linter.unusedVariables false

def RInPost (g : Nat) (s : St) (w : World) (e : Ending) (w' : World) : Prop :=
  ∃ x A c, e = .returned (insV x A c) ∧ RfAt5 w' g (nx pIn s) ∧ LabX (fun k => w.heap.size ≤ k) w' x A c ∧ InsOk x ∧ (∀ a l', bd s pIn = .ok (a, l') → x = a) ∧ Chg (fun k => k = g) w w'
def zC : List Value := [.int .i64 0, .int .u32 0, .int .u32 0, .int .u64 0, .slice none 0 0, .int .i64 0]
/-- Within instr: the reader in g, the instruction in gi, the result in gr. -/
def F3 (w : World) (g gi gr : Nat) (s : St) (Q : List Value) (W : World) : Prop :=
  RfAt5 W g s ∧ Own W gi 43 Q ∧ Own W gr 43 zC ∧ g < gr ∧ gr < gi ∧ w.heap.size ≤ gr ∧ Chg (fun k => k = g) w W
section
variable {w : World} {g gi gr : Nat} {s s' : St} {Q : List Value} {W W' : World}
theorem F3.step (h : F3 w g gi gr s Q W) (h1 : RfAt5 W' g s') (hc : Chg (fun k => k = g) W W') : F3 w g gi gr s' Q W' := by
  obtain ⟨p1, p2, p3, p4, p5, p6, p7⟩ := h
  exact ⟨h1, p2.chg hc (by omega), p3.chg hc (by omega), p4, p5, p6, p7.trans hc fun k _ e => e⟩
theorem F3.set (h : F3 w g gi gr s Q W) (j : Nat) (u : Value) : F3 w g gi gr s (Q.set j u) (W.setCell ⟨gi, j, none⟩ u) := by
  obtain ⟨p1, p2, p3, p4, p5, p6, p7⟩ := h
  have hc := chgSet W gi j u
  exact ⟨p1.chg hc fun k hk => by omega, p2.set j u, p3.chg hc (by omega), p4, p5, p6, p7.trans hc fun k hk e => by omega⟩
theorem F3.later (h : F3 w g gi gr s Q W) (hb : Below W.heap.size W W') : F3 w g gi gr s Q W' := by
  obtain ⟨p1, p2, p3, p4, p5, p6, p7⟩ := h
  exact ⟨p1.later hb, p2.later hb, p3.later hb, p4, p5, p6, p7.trans (Chg.of_below (S := fun k => k = g) hb) fun k hk e => e⟩
theorem F3.grew (h : F3 w g gi gr s Q W) {v v' : Value} (hg : Grew v W v' W') (hv : ∀ k, v.ownBlock = some k → gi < k) : F3 w g gi gr s Q W' := by
  obtain ⟨p1, p2, p3, p4, p5, p6, p7⟩ := h
  have hn := fun k hk => hv k hk
  exact ⟨p1.chg hg.1 fun k hk e => by have := hn k e; omega, p2.chg hg.1 (fun e => by have := hn gi e; omega), p3.chg hg.1 (fun e => by have := hn gr e; omega), p4, p5, p6, p7.trans hg.1 fun k hk e => by have := hn k e; omega⟩
end
theorem in_eq {b l1 : List Int} {op imm : Int} (hp : pOp b = .ok (op, l1)) (hk : kd op = (imm, 0)) : nx pIn (.ok b) = nx (pBh imm op) (.ok l1) ∧ bd (.ok b) pIn = bd (.ok l1) (pBh imm op) := by
  simp only [nx_ok, bd_ok, pIn, seq, hp, hk, if_true]
  exact ⟨trivial, trivial⟩
theorem ok0 {op : Int} : InsOk ⟨op, 0, 0, 0, [], 0⟩ := ⟨by simp, by simp, by simp, by simp, by simp, by simp, by simp, by simp, IsU32.nil, by simp⟩
theorem okA {op a : Int} (h0 : 0 ≤ a) (h1 : a ≤ 4294967295) : InsOk ⟨op, a, 0, 0, [], 0⟩ := ⟨h0, by simp; omega, by simp, by simp, by simp, by simp, by simp, by simp, IsU32.nil, by simp⟩
theorem okAB {op a b : Int} (h0 : 0 ≤ a) (h1 : a ≤ 4294967295) (h2 : 0 ≤ b) (h3 : b ≤ 4294967295) : InsOk ⟨op, a, b, 0, [], 0⟩ := ⟨h0, by simp; omega, h2, by simp; omega, by simp, by simp, by simp, by simp, IsU32.nil, by simp⟩
theorem okN {op n : Int} (h0 : 0 ≤ n) (h1 : n ≤ 18446744073709551615) : InsOk ⟨op, 0, 0, n, [], 0⟩ := ⟨by simp, by simp, by simp, by simp, h0, by simp; omega, by simp, by simp, IsU32.nil, by simp⟩
theorem okT {op t : Int} (h0 : -9223372036854775808 ≤ t) (h1 : t ≤ 9223372036854775807) : InsOk ⟨op, 0, 0, 0, [], t⟩ := ⟨by simp, by simp, by simp, by simp, by simp, by simp, h0, h1, IsU32.nil, by simp⟩
theorem zero_val (s : St) : ∀ a l', bd s pZero = .ok (a, l') → 0 = a := fun a l' h => by
  cases s with
  | error e => cases h
  | ok l =>
    simp only [bd_ok, pZero, seq] at h
    cases hp : pByte l with
    | error e => rw [hp] at h; cases h
    | ok r =>
      rw [hp] at h
      simp only [bd_ok] at h
      split at h
      · injection h with h; injection h
      · cases h
theorem ty28R {s : St} {n x : Int} {s1 : St} (h1 : ∀ a l', bd s (pU 32) = .ok (a, l') → n = a) (e1 : s1 = if n = 1 then nx (pU 32) s else failS 2 (nx (pU 32) s)) (h2 : ∀ a l', bd s1 pVal = .ok (a, l') → x = a) :
    nx (pTy 28) s = nx pVal s1 ∧ ∀ a l', bd s (pTy 28) = .ok (a, l') → x = a := by
  subst e1
  unfold pTy
  rw [if_pos rfl]
  cases s with
  | error e => simp [failS]
  | ok l =>
    simp only [nx_ok, bd_ok, seq] at h1 h2 ⊢
    cases hp : pU 32 l with
    | error e => simp [failS]
    | ok r =>
      have := h1 r.1 r.2 (by rw [hp])
      subst this
      rw [hp] at h2
      simp only [bd_ok] at h2 ⊢
      by_cases hn : r.1 = 1
      · simp only [hn, if_true, bd_ok, nx_ok] at h2 ⊢
        exact ⟨trivial, h2⟩
      · simp [hn, failS]
theorem tyR {s : St} {x : Int} {s1 : St} (h1 : ∀ a l', bd s pVal = .ok (a, l') → x = a) (e1 : (if x = 112 ∨ x = 111 then nx pVal s else failS 2 (nx pVal s)) = s1) :
    nx (pTy 208) s = s1 ∧ ∀ a l', bd s (pTy 208) = .ok (a, l') → x = a := by
  subst e1
  unfold pTy
  rw [if_neg (by decide)]
  cases s with
  | error e => simp [failS]
  | ok l =>
    simp only [nx_ok, bd_ok, seq] at h1 ⊢
    cases hp : pVal l with
    | error e => simp [failS]
    | ok r =>
      have := h1 r.1 r.2 (by rw [hp])
      subst this
      simp only [bd_ok]
      by_cases hr : r.1 = 112 ∨ r.1 = 111
      · simp only [if_pos hr, bd_ok]; exact ⟨trivial, fun a l' h => by injection h with h; injection h⟩
      · simp [if_neg hr, failS]
theorem nx_ret {s : St} {x : Ins} : nx (fun l => .ok (x, l)) s = s ∧ ∀ z l', bd s (fun l => .ok (x, l)) = .ok (z, l') → x = z := by
  cases s with
  | error e => exact ⟨rfl, fun z l' h => by cases h⟩
  | ok l => exact ⟨rfl, fun z l' h => by simp only [bd_ok] at h; injection h with h; injection h⟩

set_option maxHeartbeats 4000000 in
theorem rin0 (g : Nat) (b l1 : List Int) (op : Int) (w : World) (h : RfAt5 w g (.ok b)) (hp : pOp b = .ok (op, l1)) (hk : kd op = (0, 0)) :
    Calls Try.prog 37 #[.pointer (some ⟨g, 0, none⟩)] w (RInPost g (.ok b) w) := by
  have HE := Lib.hid (in_eq hp hk)
  have HP := Lib.hid hp
  have HK := Lib.hid hk
  have HR0 : Hid (RfAt5 (w.alloc (.cells #[.int .i64 0, .int .u32 0, .int .u32 0, .int .u64 0, .slice none 0 0, .int .i64 0] 43)) g (.ok b) ∧ Own (w.alloc (.cells #[.int .i64 0, .int .u32 0, .int .u32 0, .int .u64 0, .slice none 0 0, .int .i64 0] 43)) w.heap.size 43 zC ∧ g < w.heap.size ∧ Chg (fun k => k = g) w (w.alloc (.cells #[.int .i64 0, .int .u32 0, .int .u32 0, .int .u64 0, .slice none 0 0, .int .i64 0] 43))) :=
    ⟨h.later ((Below.refl _ _).alloc (Nat.le_refl _) _), Own.new w _ _, h.lt, Chg.alloc _ _⟩
  clear h hp hk
  go_enter Try.func37, Try.ntmps37
  go_wp2_with fail
  refine (fop5_any g _ _ HR0.out.1).mono ?_
  rintro e w1 ⟨x, rfl, x0, x1, h2, h3, h4⟩
  have hx := h3 op l1 (by rw [bd_ok]; exact HP.out)
  subst hx
  rw [nx_ok, HP.out] at h2
  simp only [bd_ok] at h2
  have HT : Hid (F3 w g w1.heap.size w.heap.size (.ok l1) (insC ⟨x, 0, 0, 0, [], 0⟩ none 0) (w1.alloc (.cells #[.int .i64 x, .int .u32 0, .int .u32 0, .int .u64 0, .slice none 0 0, .int .i64 0] 43))) := by
    have hb := (Below.refl w1.heap.size w1).alloc (Nat.le_refl _) (.cells #[.int .i64 x, .int .u32 0, .int .u32 0, .int .u64 0, .slice none 0 0, .int .i64 0] 43)
    have hg := HR0.out.2.2.1
    have hl := (HR0.out.2.1.chg h4 (by omega)).lt
    exact ⟨h2.later hb, Own.new w1 _ _, (HR0.out.2.1.chg h4 (by omega)).later hb, hg, hl, Nat.le_refl _, (HR0.out.2.2.2.trans h4 fun k _ e => e).trans (Chg.alloc (S := fun k => k = g) w1 _) fun k _ e => e⟩
  have hE0 := HT.out.1.own0
  clear h2 h3 h4 HR0 HP
  go_wp2_with (go_at_call 51; refine (refKind_any x _).mono ?_; unfold pr; rw [HK.out]; rintro e w' ⟨rfl, rfl⟩)
  refine (ffail05_any g l1 _ HT.out.1).mono ?_
  rintro e w2 ⟨⟨u, rfl⟩, h2, hc⟩
  have HT2 := Lib.hid (HT.out.step h2 hc)
  have hgi := HT.out.2.2.2.2.1
  clear h2 hc HT hE0
  have HT := Lib.hid HT2.out
  clear HT2
  obtain ⟨c0, c1, c2, c3, c4, c5, f0, f1, f2, f3, f4, f5⟩ := own_cells6 HT.out.2.1
  simp only [List.length_nil] at c4
  generalize w1.heap.size = gi at *
  generalize hgr : w.heap.size = gr at *
  have HGR := Lib.hid hgr
  clear hgr
  obtain ⟨r0, r1, r2, r3, r4, r5, s0, s1, s2, s3, s4, s5⟩ := own_cells6 HT.out.2.2.1
  have hgg : ¬ gi = gr := by omega
  have hgg2 : ¬ gr = gi := by omega
  go_wp2
  have hW0 := HT.out
  have hW := own_put6 hW0.2.2.1 (.int .i64 x) (.int .u32 0) (.int .u32 0) (.int .u64 0) (.slice none 0 0) (.int .i64 0)
  have hC := chg6 w2 gr #[.int .i64 x, .int .u32 0, .int .u32 0, .int .u64 0, .slice none 0 0, .int .i64 0]
  have hRF := hW0.1.chg hC (fun k hk e => by have := hW0.2.2.2.1; omega)
  have hCH := hW0.2.2.2.2.2.2.trans hC fun k hk e => by have := hW0.2.2.2.2.2.1; omega
  have HZ := Lib.hid (And.intro hRF (And.intro hCH hC))
  clear hRF hCH
  show bodyPost _ _ _ _ _ (put6 w2 gr #[.int .i64 x, .int .u32 0, .int .u32 0, .int .u64 0, .slice none 0 0, .int .i64 0])
  generalize put6 w2 gr #[.int .i64 x, .int .u32 0, .int .u32 0, .int .u64 0, .slice none 0 0, .int .i64 0] = WE at *
  clear c0 c1 c2 c3 c4 c5 f0 f1 f2 f3 f4 f5 r0 r1 r2 r3 r4 r5 s0 s1 s2 s3 s4 s5
  obtain ⟨k0, k1, k2, k3, k4, k5, -, -, -, -, -, -⟩ := own_cells6 hW
  refine bodyPost_ret (by simp [results, Try.results37, go_sem, k0, k1, k2, k3, k4, k5]; try rfl) rfl ?_
  have hkey : nx (pBh 0 x) (.ok l1) = .ok l1 ∧ ∀ z l', bd (.ok l1) (pBh 0 x) = .ok (z, l') → ⟨x, 0, 0, 0, [], 0⟩ = z := by
    exact ⟨nx_ret.1, (nx_ret (s := .ok l1) (x := ⟨x, 0, 0, 0, [], 0⟩)).2⟩
  exact ⟨⟨x, 0, 0, 0, [], 0⟩, none, 0, rfl, by rw [HE.out.1, hkey.1]; exact HZ.out.1, LabX.nil _ _ rfl, ok0, fun a l' h => hkey.2 a l' (by rw [← HE.out.2]; exact h), HZ.out.2.1⟩

set_option maxHeartbeats 4000000 in
theorem rin1_63 (g : Nat) (b l1 : List Int) (w : World) (h : RfAt5 w g (.ok b)) (hp : pOp b = .ok (63, l1)) (hk : kd 63 = (1, 0)) :
    Calls Try.prog 37 #[.pointer (some ⟨g, 0, none⟩)] w (RInPost g (.ok b) w) := by
  have HE := Lib.hid (in_eq hp hk)
  have HP := Lib.hid hp
  have HK := Lib.hid hk
  have HR0 : Hid (RfAt5 (w.alloc (.cells #[.int .i64 0, .int .u32 0, .int .u32 0, .int .u64 0, .slice none 0 0, .int .i64 0] 43)) g (.ok b) ∧ Own (w.alloc (.cells #[.int .i64 0, .int .u32 0, .int .u32 0, .int .u64 0, .slice none 0 0, .int .i64 0] 43)) w.heap.size 43 zC ∧ g < w.heap.size ∧ Chg (fun k => k = g) w (w.alloc (.cells #[.int .i64 0, .int .u32 0, .int .u32 0, .int .u64 0, .slice none 0 0, .int .i64 0] 43))) :=
    ⟨h.later ((Below.refl _ _).alloc (Nat.le_refl _) _), Own.new w _ _, h.lt, Chg.alloc _ _⟩
  clear h hp hk
  go_enter Try.func37, Try.ntmps37
  go_wp2_with fail
  refine (fop5_any g _ _ HR0.out.1).mono ?_
  rintro e w1 ⟨x, rfl, x0, x1, h2, h3, h4⟩
  have hx := h3 63 l1 (by rw [bd_ok]; exact HP.out)
  subst hx
  rw [nx_ok, HP.out] at h2
  simp only [bd_ok] at h2
  have HT : Hid (F3 w g w1.heap.size w.heap.size (.ok l1) (insC ⟨63, 0, 0, 0, [], 0⟩ none 0) (w1.alloc (.cells #[.int .i64 63, .int .u32 0, .int .u32 0, .int .u64 0, .slice none 0 0, .int .i64 0] 43))) := by
    have hb := (Below.refl w1.heap.size w1).alloc (Nat.le_refl _) (.cells #[.int .i64 63, .int .u32 0, .int .u32 0, .int .u64 0, .slice none 0 0, .int .i64 0] 43)
    have hg := HR0.out.2.2.1
    have hl := (HR0.out.2.1.chg h4 (by omega)).lt
    exact ⟨h2.later hb, Own.new w1 _ _, (HR0.out.2.1.chg h4 (by omega)).later hb, hg, hl, Nat.le_refl _, (HR0.out.2.2.2.trans h4 fun k _ e => e).trans (Chg.alloc (S := fun k => k = g) w1 _) fun k _ e => e⟩
  have hE0 := HT.out.1.own0
  clear h2 h3 h4 HR0 HP
  go_wp2_with (go_at_call 51; refine (refKind_any 63 _).mono ?_; unfold pr; rw [HK.out]; rintro e w' ⟨rfl, rfl⟩)
  refine (ffail05_any g l1 _ HT.out.1).mono ?_
  rintro e w2 ⟨⟨u, rfl⟩, h2, hc⟩
  have HT2 := Lib.hid (HT.out.step h2 hc)
  have hgi := HT.out.2.2.2.2.1
  clear h2 hc HT hE0
  have HT := Lib.hid HT2.out
  clear HT2
  obtain ⟨c0, c1, c2, c3, c4, c5, f0, f1, f2, f3, f4, f5⟩ := own_cells6 HT.out.2.1
  simp only [List.length_nil] at c4
  generalize w1.heap.size = gi at *
  generalize hgr : w.heap.size = gr at *
  have HGR := Lib.hid hgr
  clear hgr
  go_wp2_with fail
  refine (fzero5_any g _ _ HT.out.1).mono ?_
  rintro e w3 ⟨⟨u3, rfl⟩, h2, h4⟩
  have HT2 := Lib.hid (HT.out.step h2 h4)
  clear h2 h4 HT c0 c1 c2 c3 c4 c5 f0 f1 f2 f3 f4 f5
  have HT := Lib.hid HT2.out
  clear HT2
  obtain ⟨c0, c1, c2, c3, c4, c5, f0, f1, f2, f3, f4, f5⟩ := own_cells6 HT.out.2.1
  simp only [List.length_nil] at c4
  obtain ⟨r0, r1, r2, r3, r4, r5, s0, s1, s2, s3, s4, s5⟩ := own_cells6 HT.out.2.2.1
  have hgg : ¬ gi = gr := by omega
  have hgg2 : ¬ gr = gi := by omega
  go_wp2
  have hW0 := HT.out
  have hW := own_put6 hW0.2.2.1 (.int .i64 63) (.int .u32 0) (.int .u32 0) (.int .u64 0) (.slice none 0 0) (.int .i64 0)
  have hC := chg6 w3 gr #[.int .i64 63, .int .u32 0, .int .u32 0, .int .u64 0, .slice none 0 0, .int .i64 0]
  have hRF := hW0.1.chg hC (fun k hk e => by have := hW0.2.2.2.1; omega)
  have hCH := hW0.2.2.2.2.2.2.trans hC fun k hk e => by have := hW0.2.2.2.2.2.1; omega
  have HZ := Lib.hid (And.intro hRF (And.intro hCH hC))
  clear hRF hCH
  show bodyPost _ _ _ _ _ (put6 w3 gr #[.int .i64 63, .int .u32 0, .int .u32 0, .int .u64 0, .slice none 0 0, .int .i64 0])
  generalize put6 w3 gr #[.int .i64 63, .int .u32 0, .int .u32 0, .int .u64 0, .slice none 0 0, .int .i64 0] = WE at *
  clear c0 c1 c2 c3 c4 c5 f0 f1 f2 f3 f4 f5 r0 r1 r2 r3 r4 r5 s0 s1 s2 s3 s4 s5
  obtain ⟨k0, k1, k2, k3, k4, k5, -, -, -, -, -, -⟩ := own_cells6 hW
  refine bodyPost_ret (by simp [results, Try.results37, go_sem, k0, k1, k2, k3, k4, k5]; try rfl) rfl ?_
  have hkey : nx (pBh 1 63) (.ok l1) = nx pZero (.ok l1) ∧ ∀ z l', bd (.ok l1) (pBh 1 63) = .ok (z, l') → ⟨63, 0, 0, 0, [], 0⟩ = z := by
    rw [pBh1, show pNm 63 0 = pZero from rfl]; exact bh_one (f := fun a => (⟨63, a, 0, 0, [], 0⟩ : Ins)) (s := .ok l1) (a := 0) (zero_val (.ok l1))
  exact ⟨⟨63, 0, 0, 0, [], 0⟩, none, 0, rfl, by rw [HE.out.1, hkey.1]; exact HZ.out.1, LabX.nil _ _ rfl, ok0, fun a l' h => hkey.2 a l' (by rw [← HE.out.2]; exact h), HZ.out.2.1⟩

set_option maxHeartbeats 4000000 in
theorem rin1_64 (g : Nat) (b l1 : List Int) (w : World) (h : RfAt5 w g (.ok b)) (hp : pOp b = .ok (64, l1)) (hk : kd 64 = (1, 0)) :
    Calls Try.prog 37 #[.pointer (some ⟨g, 0, none⟩)] w (RInPost g (.ok b) w) := by
  have HE := Lib.hid (in_eq hp hk)
  have HP := Lib.hid hp
  have HK := Lib.hid hk
  have HR0 : Hid (RfAt5 (w.alloc (.cells #[.int .i64 0, .int .u32 0, .int .u32 0, .int .u64 0, .slice none 0 0, .int .i64 0] 43)) g (.ok b) ∧ Own (w.alloc (.cells #[.int .i64 0, .int .u32 0, .int .u32 0, .int .u64 0, .slice none 0 0, .int .i64 0] 43)) w.heap.size 43 zC ∧ g < w.heap.size ∧ Chg (fun k => k = g) w (w.alloc (.cells #[.int .i64 0, .int .u32 0, .int .u32 0, .int .u64 0, .slice none 0 0, .int .i64 0] 43))) :=
    ⟨h.later ((Below.refl _ _).alloc (Nat.le_refl _) _), Own.new w _ _, h.lt, Chg.alloc _ _⟩
  clear h hp hk
  go_enter Try.func37, Try.ntmps37
  go_wp2_with fail
  refine (fop5_any g _ _ HR0.out.1).mono ?_
  rintro e w1 ⟨x, rfl, x0, x1, h2, h3, h4⟩
  have hx := h3 64 l1 (by rw [bd_ok]; exact HP.out)
  subst hx
  rw [nx_ok, HP.out] at h2
  simp only [bd_ok] at h2
  have HT : Hid (F3 w g w1.heap.size w.heap.size (.ok l1) (insC ⟨64, 0, 0, 0, [], 0⟩ none 0) (w1.alloc (.cells #[.int .i64 64, .int .u32 0, .int .u32 0, .int .u64 0, .slice none 0 0, .int .i64 0] 43))) := by
    have hb := (Below.refl w1.heap.size w1).alloc (Nat.le_refl _) (.cells #[.int .i64 64, .int .u32 0, .int .u32 0, .int .u64 0, .slice none 0 0, .int .i64 0] 43)
    have hg := HR0.out.2.2.1
    have hl := (HR0.out.2.1.chg h4 (by omega)).lt
    exact ⟨h2.later hb, Own.new w1 _ _, (HR0.out.2.1.chg h4 (by omega)).later hb, hg, hl, Nat.le_refl _, (HR0.out.2.2.2.trans h4 fun k _ e => e).trans (Chg.alloc (S := fun k => k = g) w1 _) fun k _ e => e⟩
  have hE0 := HT.out.1.own0
  clear h2 h3 h4 HR0 HP
  go_wp2_with (go_at_call 51; refine (refKind_any 64 _).mono ?_; unfold pr; rw [HK.out]; rintro e w' ⟨rfl, rfl⟩)
  refine (ffail05_any g l1 _ HT.out.1).mono ?_
  rintro e w2 ⟨⟨u, rfl⟩, h2, hc⟩
  have HT2 := Lib.hid (HT.out.step h2 hc)
  have hgi := HT.out.2.2.2.2.1
  clear h2 hc HT hE0
  have HT := Lib.hid HT2.out
  clear HT2
  obtain ⟨c0, c1, c2, c3, c4, c5, f0, f1, f2, f3, f4, f5⟩ := own_cells6 HT.out.2.1
  simp only [List.length_nil] at c4
  generalize w1.heap.size = gi at *
  generalize hgr : w.heap.size = gr at *
  have HGR := Lib.hid hgr
  clear hgr
  go_wp2_with fail
  refine (fzero5_any g _ _ HT.out.1).mono ?_
  rintro e w3 ⟨⟨u3, rfl⟩, h2, h4⟩
  have HT2 := Lib.hid (HT.out.step h2 h4)
  clear h2 h4 HT c0 c1 c2 c3 c4 c5 f0 f1 f2 f3 f4 f5
  have HT := Lib.hid HT2.out
  clear HT2
  obtain ⟨c0, c1, c2, c3, c4, c5, f0, f1, f2, f3, f4, f5⟩ := own_cells6 HT.out.2.1
  simp only [List.length_nil] at c4
  obtain ⟨r0, r1, r2, r3, r4, r5, s0, s1, s2, s3, s4, s5⟩ := own_cells6 HT.out.2.2.1
  have hgg : ¬ gi = gr := by omega
  have hgg2 : ¬ gr = gi := by omega
  go_wp2
  have hW0 := HT.out
  have hW := own_put6 hW0.2.2.1 (.int .i64 64) (.int .u32 0) (.int .u32 0) (.int .u64 0) (.slice none 0 0) (.int .i64 0)
  have hC := chg6 w3 gr #[.int .i64 64, .int .u32 0, .int .u32 0, .int .u64 0, .slice none 0 0, .int .i64 0]
  have hRF := hW0.1.chg hC (fun k hk e => by have := hW0.2.2.2.1; omega)
  have hCH := hW0.2.2.2.2.2.2.trans hC fun k hk e => by have := hW0.2.2.2.2.2.1; omega
  have HZ := Lib.hid (And.intro hRF (And.intro hCH hC))
  clear hRF hCH
  show bodyPost _ _ _ _ _ (put6 w3 gr #[.int .i64 64, .int .u32 0, .int .u32 0, .int .u64 0, .slice none 0 0, .int .i64 0])
  generalize put6 w3 gr #[.int .i64 64, .int .u32 0, .int .u32 0, .int .u64 0, .slice none 0 0, .int .i64 0] = WE at *
  clear c0 c1 c2 c3 c4 c5 f0 f1 f2 f3 f4 f5 r0 r1 r2 r3 r4 r5 s0 s1 s2 s3 s4 s5
  obtain ⟨k0, k1, k2, k3, k4, k5, -, -, -, -, -, -⟩ := own_cells6 hW
  refine bodyPost_ret (by simp [results, Try.results37, go_sem, k0, k1, k2, k3, k4, k5]; try rfl) rfl ?_
  have hkey : nx (pBh 1 64) (.ok l1) = nx pZero (.ok l1) ∧ ∀ z l', bd (.ok l1) (pBh 1 64) = .ok (z, l') → ⟨64, 0, 0, 0, [], 0⟩ = z := by
    rw [pBh1, show pNm 64 0 = pZero from rfl]; exact bh_one (f := fun a => (⟨64, a, 0, 0, [], 0⟩ : Ins)) (s := .ok l1) (a := 0) (zero_val (.ok l1))
  exact ⟨⟨64, 0, 0, 0, [], 0⟩, none, 0, rfl, by rw [HE.out.1, hkey.1]; exact HZ.out.1, LabX.nil _ _ rfl, ok0, fun a l' h => hkey.2 a l' (by rw [← HE.out.2]; exact h), HZ.out.2.1⟩

set_option maxHeartbeats 4000000 in
theorem rin1_64523 (g : Nat) (b l1 : List Int) (w : World) (h : RfAt5 w g (.ok b)) (hp : pOp b = .ok (64523, l1)) (hk : kd 64523 = (1, 0)) :
    Calls Try.prog 37 #[.pointer (some ⟨g, 0, none⟩)] w (RInPost g (.ok b) w) := by
  have HE := Lib.hid (in_eq hp hk)
  have HP := Lib.hid hp
  have HK := Lib.hid hk
  have HR0 : Hid (RfAt5 (w.alloc (.cells #[.int .i64 0, .int .u32 0, .int .u32 0, .int .u64 0, .slice none 0 0, .int .i64 0] 43)) g (.ok b) ∧ Own (w.alloc (.cells #[.int .i64 0, .int .u32 0, .int .u32 0, .int .u64 0, .slice none 0 0, .int .i64 0] 43)) w.heap.size 43 zC ∧ g < w.heap.size ∧ Chg (fun k => k = g) w (w.alloc (.cells #[.int .i64 0, .int .u32 0, .int .u32 0, .int .u64 0, .slice none 0 0, .int .i64 0] 43))) :=
    ⟨h.later ((Below.refl _ _).alloc (Nat.le_refl _) _), Own.new w _ _, h.lt, Chg.alloc _ _⟩
  clear h hp hk
  go_enter Try.func37, Try.ntmps37
  go_wp2_with fail
  refine (fop5_any g _ _ HR0.out.1).mono ?_
  rintro e w1 ⟨x, rfl, x0, x1, h2, h3, h4⟩
  have hx := h3 64523 l1 (by rw [bd_ok]; exact HP.out)
  subst hx
  rw [nx_ok, HP.out] at h2
  simp only [bd_ok] at h2
  have HT : Hid (F3 w g w1.heap.size w.heap.size (.ok l1) (insC ⟨64523, 0, 0, 0, [], 0⟩ none 0) (w1.alloc (.cells #[.int .i64 64523, .int .u32 0, .int .u32 0, .int .u64 0, .slice none 0 0, .int .i64 0] 43))) := by
    have hb := (Below.refl w1.heap.size w1).alloc (Nat.le_refl _) (.cells #[.int .i64 64523, .int .u32 0, .int .u32 0, .int .u64 0, .slice none 0 0, .int .i64 0] 43)
    have hg := HR0.out.2.2.1
    have hl := (HR0.out.2.1.chg h4 (by omega)).lt
    exact ⟨h2.later hb, Own.new w1 _ _, (HR0.out.2.1.chg h4 (by omega)).later hb, hg, hl, Nat.le_refl _, (HR0.out.2.2.2.trans h4 fun k _ e => e).trans (Chg.alloc (S := fun k => k = g) w1 _) fun k _ e => e⟩
  have hE0 := HT.out.1.own0
  clear h2 h3 h4 HR0 HP
  go_wp2_with (go_at_call 51; refine (refKind_any 64523 _).mono ?_; unfold pr; rw [HK.out]; rintro e w' ⟨rfl, rfl⟩)
  refine (ffail05_any g l1 _ HT.out.1).mono ?_
  rintro e w2 ⟨⟨u, rfl⟩, h2, hc⟩
  have HT2 := Lib.hid (HT.out.step h2 hc)
  have hgi := HT.out.2.2.2.2.1
  clear h2 hc HT hE0
  have HT := Lib.hid HT2.out
  clear HT2
  obtain ⟨c0, c1, c2, c3, c4, c5, f0, f1, f2, f3, f4, f5⟩ := own_cells6 HT.out.2.1
  simp only [List.length_nil] at c4
  generalize w1.heap.size = gi at *
  generalize hgr : w.heap.size = gr at *
  have HGR := Lib.hid hgr
  clear hgr
  go_wp2_with fail
  refine (fzero5_any g _ _ HT.out.1).mono ?_
  rintro e w3 ⟨⟨u3, rfl⟩, h2, h4⟩
  have HT2 := Lib.hid (HT.out.step h2 h4)
  clear h2 h4 HT c0 c1 c2 c3 c4 c5 f0 f1 f2 f3 f4 f5
  have HT := Lib.hid HT2.out
  clear HT2
  obtain ⟨c0, c1, c2, c3, c4, c5, f0, f1, f2, f3, f4, f5⟩ := own_cells6 HT.out.2.1
  simp only [List.length_nil] at c4
  obtain ⟨r0, r1, r2, r3, r4, r5, s0, s1, s2, s3, s4, s5⟩ := own_cells6 HT.out.2.2.1
  have hgg : ¬ gi = gr := by omega
  have hgg2 : ¬ gr = gi := by omega
  go_wp2
  have hW0 := HT.out
  have hW := own_put6 hW0.2.2.1 (.int .i64 64523) (.int .u32 0) (.int .u32 0) (.int .u64 0) (.slice none 0 0) (.int .i64 0)
  have hC := chg6 w3 gr #[.int .i64 64523, .int .u32 0, .int .u32 0, .int .u64 0, .slice none 0 0, .int .i64 0]
  have hRF := hW0.1.chg hC (fun k hk e => by have := hW0.2.2.2.1; omega)
  have hCH := hW0.2.2.2.2.2.2.trans hC fun k hk e => by have := hW0.2.2.2.2.2.1; omega
  have HZ := Lib.hid (And.intro hRF (And.intro hCH hC))
  clear hRF hCH
  show bodyPost _ _ _ _ _ (put6 w3 gr #[.int .i64 64523, .int .u32 0, .int .u32 0, .int .u64 0, .slice none 0 0, .int .i64 0])
  generalize put6 w3 gr #[.int .i64 64523, .int .u32 0, .int .u32 0, .int .u64 0, .slice none 0 0, .int .i64 0] = WE at *
  clear c0 c1 c2 c3 c4 c5 f0 f1 f2 f3 f4 f5 r0 r1 r2 r3 r4 r5 s0 s1 s2 s3 s4 s5
  obtain ⟨k0, k1, k2, k3, k4, k5, -, -, -, -, -, -⟩ := own_cells6 hW
  refine bodyPost_ret (by simp [results, Try.results37, go_sem, k0, k1, k2, k3, k4, k5]; try rfl) rfl ?_
  have hkey : nx (pBh 1 64523) (.ok l1) = nx pZero (.ok l1) ∧ ∀ z l', bd (.ok l1) (pBh 1 64523) = .ok (z, l') → ⟨64523, 0, 0, 0, [], 0⟩ = z := by
    rw [pBh1, show pNm 64523 0 = pZero from rfl]; exact bh_one (f := fun a => (⟨64523, a, 0, 0, [], 0⟩ : Ins)) (s := .ok l1) (a := 0) (zero_val (.ok l1))
  exact ⟨⟨64523, 0, 0, 0, [], 0⟩, none, 0, rfl, by rw [HE.out.1, hkey.1]; exact HZ.out.1, LabX.nil _ _ rfl, ok0, fun a l' h => hkey.2 a l' (by rw [← HE.out.2]; exact h), HZ.out.2.1⟩

set_option maxHeartbeats 4000000 in
theorem rin1 (g : Nat) (b l1 : List Int) (op : Int) (w : World) (h : RfAt5 w g (.ok b)) (hp : pOp b = .ok (op, l1)) (hk : kd op = (1, 0)) (n63 : op ≠ 63) (n64 : op ≠ 64) (n64523 : op ≠ 64523) :
    Calls Try.prog 37 #[.pointer (some ⟨g, 0, none⟩)] w (RInPost g (.ok b) w) := by
  have HE := Lib.hid (in_eq hp hk)
  have HP := Lib.hid hp
  have e63 : (op == 63) = false := by simpa using n63
  have e64 : (op == 64) = false := by simpa using n64
  have e64523 : (op == 64523) = false := by simpa using n64523
  have HNM : Hid (pNm op 0 = pU 32) := by
    have n1 : op ≠ 64522 := by rintro rfl; exact absurd hk (by decide)
    have m : 0 < nums op := by unfold nums; rw [if_neg (by omega)]; split <;> omega
    unfold Hid pNm; rw [if_pos m]
  clear n63 n64 n64523
  have HK := Lib.hid hk
  have HR0 : Hid (RfAt5 (w.alloc (.cells #[.int .i64 0, .int .u32 0, .int .u32 0, .int .u64 0, .slice none 0 0, .int .i64 0] 43)) g (.ok b) ∧ Own (w.alloc (.cells #[.int .i64 0, .int .u32 0, .int .u32 0, .int .u64 0, .slice none 0 0, .int .i64 0] 43)) w.heap.size 43 zC ∧ g < w.heap.size ∧ Chg (fun k => k = g) w (w.alloc (.cells #[.int .i64 0, .int .u32 0, .int .u32 0, .int .u64 0, .slice none 0 0, .int .i64 0] 43))) :=
    ⟨h.later ((Below.refl _ _).alloc (Nat.le_refl _) _), Own.new w _ _, h.lt, Chg.alloc _ _⟩
  clear h hp hk
  go_enter Try.func37, Try.ntmps37
  go_wp2_with fail
  refine (fop5_any g _ _ HR0.out.1).mono ?_
  rintro e w1 ⟨x, rfl, x0, x1, h2, h3, h4⟩
  have hx := h3 op l1 (by rw [bd_ok]; exact HP.out)
  subst hx
  rw [nx_ok, HP.out] at h2
  simp only [bd_ok] at h2
  have HT : Hid (F3 w g w1.heap.size w.heap.size (.ok l1) (insC ⟨x, 0, 0, 0, [], 0⟩ none 0) (w1.alloc (.cells #[.int .i64 x, .int .u32 0, .int .u32 0, .int .u64 0, .slice none 0 0, .int .i64 0] 43))) := by
    have hb := (Below.refl w1.heap.size w1).alloc (Nat.le_refl _) (.cells #[.int .i64 x, .int .u32 0, .int .u32 0, .int .u64 0, .slice none 0 0, .int .i64 0] 43)
    have hg := HR0.out.2.2.1
    have hl := (HR0.out.2.1.chg h4 (by omega)).lt
    exact ⟨h2.later hb, Own.new w1 _ _, (HR0.out.2.1.chg h4 (by omega)).later hb, hg, hl, Nat.le_refl _, (HR0.out.2.2.2.trans h4 fun k _ e => e).trans (Chg.alloc (S := fun k => k = g) w1 _) fun k _ e => e⟩
  have hE0 := HT.out.1.own0
  clear h2 h3 h4 HR0 HP
  go_wp2_with (go_at_call 51; refine (refKind_any x _).mono ?_; unfold pr; rw [HK.out]; rintro e w' ⟨rfl, rfl⟩)
  refine (ffail05_any g l1 _ HT.out.1).mono ?_
  rintro e w2 ⟨⟨u, rfl⟩, h2, hc⟩
  have HT2 := Lib.hid (HT.out.step h2 hc)
  have hgi := HT.out.2.2.2.2.1
  clear h2 hc HT hE0
  have HT := Lib.hid HT2.out
  clear HT2
  obtain ⟨c0, c1, c2, c3, c4, c5, f0, f1, f2, f3, f4, f5⟩ := own_cells6 HT.out.2.1
  simp only [List.length_nil] at c4
  generalize w1.heap.size = gi at *
  generalize hgr : w.heap.size = gr at *
  have HGR := Lib.hid hgr
  clear hgr
  go_wp2_with fail
  refine (fU325_any g _ _ HT.out.1).mono ?_
  rintro e w3 ⟨y, rfl, y0, y1, h2, h3, h4⟩
  have HT2 := Lib.hid (HT.out.step h2 h4)
  have HV := Lib.hid h3
  clear h2 h3 h4 HT c0 c1 c2 c3 c4 c5 f0 f1 f2 f3 f4 f5
  have HT := Lib.hid HT2.out
  clear HT2
  obtain ⟨c0, c1, c2, c3, c4, c5, f0, f1, f2, f3, f4, f5⟩ := own_cells6 HT.out.2.1
  simp only [List.length_nil] at c4
  have HT2 := Lib.hid (HT.out.set 1 (.int .u32 y))
  clear HT
  have HT := Lib.hid HT2.out
  clear HT2
  obtain ⟨r0, r1, r2, r3, r4, r5, s0, s1, s2, s3, s4, s5⟩ := own_cells6 HT.out.2.2.1
  have hgg : ¬ gi = gr := by omega
  have hgg2 : ¬ gr = gi := by omega
  go_wp2
  have hW0 := HT.out
  have hW := own_put6 hW0.2.2.1 (.int .i64 x) (.int .u32 y) (.int .u32 0) (.int .u64 0) (.slice none 0 0) (.int .i64 0)
  have hC := chg6 (w3.setCell ⟨gi, 1, none⟩ (.int .u32 y)) gr #[.int .i64 x, .int .u32 y, .int .u32 0, .int .u64 0, .slice none 0 0, .int .i64 0]
  have hRF := hW0.1.chg hC (fun k hk e => by have := hW0.2.2.2.1; omega)
  have hCH := hW0.2.2.2.2.2.2.trans hC fun k hk e => by have := hW0.2.2.2.2.2.1; omega
  have HZ := Lib.hid (And.intro hRF (And.intro hCH hC))
  clear hRF hCH
  show bodyPost _ _ _ _ _ (put6 (w3.setCell ⟨gi, 1, none⟩ (.int .u32 y)) gr #[.int .i64 x, .int .u32 y, .int .u32 0, .int .u64 0, .slice none 0 0, .int .i64 0])
  generalize put6 (w3.setCell ⟨gi, 1, none⟩ (.int .u32 y)) gr #[.int .i64 x, .int .u32 y, .int .u32 0, .int .u64 0, .slice none 0 0, .int .i64 0] = WE at *
  clear c0 c1 c2 c3 c4 c5 f0 f1 f2 f3 f4 f5 r0 r1 r2 r3 r4 r5 s0 s1 s2 s3 s4 s5
  obtain ⟨k0, k1, k2, k3, k4, k5, -, -, -, -, -, -⟩ := own_cells6 hW
  refine bodyPost_ret (by simp [results, Try.results37, go_sem, k0, k1, k2, k3, k4, k5]; try rfl) rfl ?_
  have hkey : nx (pBh 1 x) (.ok l1) = nx (pU 32) (.ok l1) ∧ ∀ z l', bd (.ok l1) (pBh 1 x) = .ok (z, l') → ⟨x, y, 0, 0, [], 0⟩ = z := by
    rw [pBh1, HNM.out]; exact bh_one (f := fun a => (⟨x, a, 0, 0, [], 0⟩ : Ins)) HV.out
  exact ⟨⟨x, y, 0, 0, [], 0⟩, none, 0, rfl, by rw [HE.out.1, hkey.1]; exact HZ.out.1, LabX.nil _ _ rfl, okA y0 y1, fun a l' h => hkey.2 a l' (by rw [← HE.out.2]; exact h), HZ.out.2.1⟩

set_option maxHeartbeats 4000000 in
theorem rin2_64522 (g : Nat) (b l1 : List Int) (w : World) (h : RfAt5 w g (.ok b)) (hp : pOp b = .ok (64522, l1)) (hk : kd 64522 = (2, 0)) :
    Calls Try.prog 37 #[.pointer (some ⟨g, 0, none⟩)] w (RInPost g (.ok b) w) := by
  have HE := Lib.hid (in_eq hp hk)
  have HP := Lib.hid hp
  have HK := Lib.hid hk
  have HR0 : Hid (RfAt5 (w.alloc (.cells #[.int .i64 0, .int .u32 0, .int .u32 0, .int .u64 0, .slice none 0 0, .int .i64 0] 43)) g (.ok b) ∧ Own (w.alloc (.cells #[.int .i64 0, .int .u32 0, .int .u32 0, .int .u64 0, .slice none 0 0, .int .i64 0] 43)) w.heap.size 43 zC ∧ g < w.heap.size ∧ Chg (fun k => k = g) w (w.alloc (.cells #[.int .i64 0, .int .u32 0, .int .u32 0, .int .u64 0, .slice none 0 0, .int .i64 0] 43))) :=
    ⟨h.later ((Below.refl _ _).alloc (Nat.le_refl _) _), Own.new w _ _, h.lt, Chg.alloc _ _⟩
  clear h hp hk
  go_enter Try.func37, Try.ntmps37
  go_wp2_with fail
  refine (fop5_any g _ _ HR0.out.1).mono ?_
  rintro e w1 ⟨x, rfl, x0, x1, h2, h3, h4⟩
  have hx := h3 64522 l1 (by rw [bd_ok]; exact HP.out)
  subst hx
  rw [nx_ok, HP.out] at h2
  simp only [bd_ok] at h2
  have HT : Hid (F3 w g w1.heap.size w.heap.size (.ok l1) (insC ⟨64522, 0, 0, 0, [], 0⟩ none 0) (w1.alloc (.cells #[.int .i64 64522, .int .u32 0, .int .u32 0, .int .u64 0, .slice none 0 0, .int .i64 0] 43))) := by
    have hb := (Below.refl w1.heap.size w1).alloc (Nat.le_refl _) (.cells #[.int .i64 64522, .int .u32 0, .int .u32 0, .int .u64 0, .slice none 0 0, .int .i64 0] 43)
    have hg := HR0.out.2.2.1
    have hl := (HR0.out.2.1.chg h4 (by omega)).lt
    exact ⟨h2.later hb, Own.new w1 _ _, (HR0.out.2.1.chg h4 (by omega)).later hb, hg, hl, Nat.le_refl _, (HR0.out.2.2.2.trans h4 fun k _ e => e).trans (Chg.alloc (S := fun k => k = g) w1 _) fun k _ e => e⟩
  have hE0 := HT.out.1.own0
  clear h2 h3 h4 HR0 HP
  go_wp2_with (go_at_call 51; refine (refKind_any 64522 _).mono ?_; unfold pr; rw [HK.out]; rintro e w' ⟨rfl, rfl⟩)
  refine (ffail05_any g l1 _ HT.out.1).mono ?_
  rintro e w2 ⟨⟨u, rfl⟩, h2, hc⟩
  have HT2 := Lib.hid (HT.out.step h2 hc)
  have hgi := HT.out.2.2.2.2.1
  clear h2 hc HT hE0
  have HT := Lib.hid HT2.out
  clear HT2
  obtain ⟨c0, c1, c2, c3, c4, c5, f0, f1, f2, f3, f4, f5⟩ := own_cells6 HT.out.2.1
  simp only [List.length_nil] at c4
  generalize w1.heap.size = gi at *
  generalize hgr : w.heap.size = gr at *
  have HGR := Lib.hid hgr
  clear hgr
  go_wp2_with fail
  refine (fzero5_any g _ _ HT.out.1).mono ?_
  rintro e w3 ⟨⟨u3, rfl⟩, h2, h4⟩
  have HT2 := Lib.hid (HT.out.step h2 h4)
  clear h2 h4 HT c0 c1 c2 c3 c4 c5 f0 f1 f2 f3 f4 f5
  have HT := Lib.hid HT2.out
  clear HT2
  obtain ⟨c0, c1, c2, c3, c4, c5, f0, f1, f2, f3, f4, f5⟩ := own_cells6 HT.out.2.1
  simp only [List.length_nil] at c4
  go_wp2_with fail
  refine (fzero5_any g _ _ HT.out.1).mono ?_
  rintro e w4 ⟨⟨u4, rfl⟩, h2, h4⟩
  have HT2 := Lib.hid (HT.out.step h2 h4)
  clear h2 h4 HT c0 c1 c2 c3 c4 c5 f0 f1 f2 f3 f4 f5
  have HT := Lib.hid HT2.out
  clear HT2
  obtain ⟨c0, c1, c2, c3, c4, c5, f0, f1, f2, f3, f4, f5⟩ := own_cells6 HT.out.2.1
  simp only [List.length_nil] at c4
  obtain ⟨r0, r1, r2, r3, r4, r5, s0, s1, s2, s3, s4, s5⟩ := own_cells6 HT.out.2.2.1
  have hgg : ¬ gi = gr := by omega
  have hgg2 : ¬ gr = gi := by omega
  go_wp2
  have hW0 := HT.out
  have hW := own_put6 hW0.2.2.1 (.int .i64 64522) (.int .u32 0) (.int .u32 0) (.int .u64 0) (.slice none 0 0) (.int .i64 0)
  have hC := chg6 w4 gr #[.int .i64 64522, .int .u32 0, .int .u32 0, .int .u64 0, .slice none 0 0, .int .i64 0]
  have hRF := hW0.1.chg hC (fun k hk e => by have := hW0.2.2.2.1; omega)
  have hCH := hW0.2.2.2.2.2.2.trans hC fun k hk e => by have := hW0.2.2.2.2.2.1; omega
  have HZ := Lib.hid (And.intro hRF (And.intro hCH hC))
  clear hRF hCH
  show bodyPost _ _ _ _ _ (put6 w4 gr #[.int .i64 64522, .int .u32 0, .int .u32 0, .int .u64 0, .slice none 0 0, .int .i64 0])
  generalize put6 w4 gr #[.int .i64 64522, .int .u32 0, .int .u32 0, .int .u64 0, .slice none 0 0, .int .i64 0] = WE at *
  clear c0 c1 c2 c3 c4 c5 f0 f1 f2 f3 f4 f5 r0 r1 r2 r3 r4 r5 s0 s1 s2 s3 s4 s5
  obtain ⟨k0, k1, k2, k3, k4, k5, -, -, -, -, -, -⟩ := own_cells6 hW
  refine bodyPost_ret (by simp [results, Try.results37, go_sem, k0, k1, k2, k3, k4, k5]; try rfl) rfl ?_
  have hkey : nx (pBh 2 64522) (.ok l1) = nx pZero (nx pZero (.ok l1)) ∧ ∀ z l', bd (.ok l1) (pBh 2 64522) = .ok (z, l') → ⟨64522, 0, 0, 0, [], 0⟩ = z := by
    rw [pBh2, show pNm 64522 0 = pZero from rfl, show pNm 64522 1 = pZero from rfl]; exact bh_two (f := fun a b => (⟨64522, a, b, 0, [], 0⟩ : Ins)) (zero_val (.ok l1)) (zero_val _)
  exact ⟨⟨64522, 0, 0, 0, [], 0⟩, none, 0, rfl, by rw [HE.out.1, hkey.1]; exact HZ.out.1, LabX.nil _ _ rfl, ok0, fun a l' h => hkey.2 a l' (by rw [← HE.out.2]; exact h), HZ.out.2.1⟩

set_option maxHeartbeats 4000000 in
theorem rin2_64520 (g : Nat) (b l1 : List Int) (w : World) (h : RfAt5 w g (.ok b)) (hp : pOp b = .ok (64520, l1)) (hk : kd 64520 = (2, 0)) :
    Calls Try.prog 37 #[.pointer (some ⟨g, 0, none⟩)] w (RInPost g (.ok b) w) := by
  have HE := Lib.hid (in_eq hp hk)
  have HP := Lib.hid hp
  have HK := Lib.hid hk
  have HR0 : Hid (RfAt5 (w.alloc (.cells #[.int .i64 0, .int .u32 0, .int .u32 0, .int .u64 0, .slice none 0 0, .int .i64 0] 43)) g (.ok b) ∧ Own (w.alloc (.cells #[.int .i64 0, .int .u32 0, .int .u32 0, .int .u64 0, .slice none 0 0, .int .i64 0] 43)) w.heap.size 43 zC ∧ g < w.heap.size ∧ Chg (fun k => k = g) w (w.alloc (.cells #[.int .i64 0, .int .u32 0, .int .u32 0, .int .u64 0, .slice none 0 0, .int .i64 0] 43))) :=
    ⟨h.later ((Below.refl _ _).alloc (Nat.le_refl _) _), Own.new w _ _, h.lt, Chg.alloc _ _⟩
  clear h hp hk
  go_enter Try.func37, Try.ntmps37
  go_wp2_with fail
  refine (fop5_any g _ _ HR0.out.1).mono ?_
  rintro e w1 ⟨x, rfl, x0, x1, h2, h3, h4⟩
  have hx := h3 64520 l1 (by rw [bd_ok]; exact HP.out)
  subst hx
  rw [nx_ok, HP.out] at h2
  simp only [bd_ok] at h2
  have HT : Hid (F3 w g w1.heap.size w.heap.size (.ok l1) (insC ⟨64520, 0, 0, 0, [], 0⟩ none 0) (w1.alloc (.cells #[.int .i64 64520, .int .u32 0, .int .u32 0, .int .u64 0, .slice none 0 0, .int .i64 0] 43))) := by
    have hb := (Below.refl w1.heap.size w1).alloc (Nat.le_refl _) (.cells #[.int .i64 64520, .int .u32 0, .int .u32 0, .int .u64 0, .slice none 0 0, .int .i64 0] 43)
    have hg := HR0.out.2.2.1
    have hl := (HR0.out.2.1.chg h4 (by omega)).lt
    exact ⟨h2.later hb, Own.new w1 _ _, (HR0.out.2.1.chg h4 (by omega)).later hb, hg, hl, Nat.le_refl _, (HR0.out.2.2.2.trans h4 fun k _ e => e).trans (Chg.alloc (S := fun k => k = g) w1 _) fun k _ e => e⟩
  have hE0 := HT.out.1.own0
  clear h2 h3 h4 HR0 HP
  go_wp2_with (go_at_call 51; refine (refKind_any 64520 _).mono ?_; unfold pr; rw [HK.out]; rintro e w' ⟨rfl, rfl⟩)
  refine (ffail05_any g l1 _ HT.out.1).mono ?_
  rintro e w2 ⟨⟨u, rfl⟩, h2, hc⟩
  have HT2 := Lib.hid (HT.out.step h2 hc)
  have hgi := HT.out.2.2.2.2.1
  clear h2 hc HT hE0
  have HT := Lib.hid HT2.out
  clear HT2
  obtain ⟨c0, c1, c2, c3, c4, c5, f0, f1, f2, f3, f4, f5⟩ := own_cells6 HT.out.2.1
  simp only [List.length_nil] at c4
  generalize w1.heap.size = gi at *
  generalize hgr : w.heap.size = gr at *
  have HGR := Lib.hid hgr
  clear hgr
  go_wp2_with fail
  refine (fU325_any g _ _ HT.out.1).mono ?_
  rintro e w3 ⟨y, rfl, y0, y1, h2, h3, h4⟩
  have HT2 := Lib.hid (HT.out.step h2 h4)
  have HV := Lib.hid h3
  clear h2 h3 h4 HT c0 c1 c2 c3 c4 c5 f0 f1 f2 f3 f4 f5
  have HT := Lib.hid HT2.out
  clear HT2
  obtain ⟨c0, c1, c2, c3, c4, c5, f0, f1, f2, f3, f4, f5⟩ := own_cells6 HT.out.2.1
  simp only [List.length_nil] at c4
  have HT2 := Lib.hid (HT.out.set 1 (.int .u32 y))
  clear HT
  have HT := Lib.hid HT2.out
  clear HT2
  go_wp2_with fail
  refine (fzero5_any g _ _ HT.out.1).mono ?_
  rintro e w4 ⟨⟨u4, rfl⟩, h2, h4⟩
  have HT2 := Lib.hid (HT.out.step h2 h4)
  clear h2 h4 HT c0 c1 c2 c3 c4 c5 f0 f1 f2 f3 f4 f5
  have HT := Lib.hid HT2.out
  clear HT2
  obtain ⟨c0, c1, c2, c3, c4, c5, f0, f1, f2, f3, f4, f5⟩ := own_cells6 HT.out.2.1
  simp only [List.length_nil] at c4
  obtain ⟨r0, r1, r2, r3, r4, r5, s0, s1, s2, s3, s4, s5⟩ := own_cells6 HT.out.2.2.1
  have hgg : ¬ gi = gr := by omega
  have hgg2 : ¬ gr = gi := by omega
  go_wp2
  have hW0 := HT.out
  have hW := own_put6 hW0.2.2.1 (.int .i64 64520) (.int .u32 y) (.int .u32 0) (.int .u64 0) (.slice none 0 0) (.int .i64 0)
  have hC := chg6 w4 gr #[.int .i64 64520, .int .u32 y, .int .u32 0, .int .u64 0, .slice none 0 0, .int .i64 0]
  have hRF := hW0.1.chg hC (fun k hk e => by have := hW0.2.2.2.1; omega)
  have hCH := hW0.2.2.2.2.2.2.trans hC fun k hk e => by have := hW0.2.2.2.2.2.1; omega
  have HZ := Lib.hid (And.intro hRF (And.intro hCH hC))
  clear hRF hCH
  show bodyPost _ _ _ _ _ (put6 w4 gr #[.int .i64 64520, .int .u32 y, .int .u32 0, .int .u64 0, .slice none 0 0, .int .i64 0])
  generalize put6 w4 gr #[.int .i64 64520, .int .u32 y, .int .u32 0, .int .u64 0, .slice none 0 0, .int .i64 0] = WE at *
  clear c0 c1 c2 c3 c4 c5 f0 f1 f2 f3 f4 f5 r0 r1 r2 r3 r4 r5 s0 s1 s2 s3 s4 s5
  obtain ⟨k0, k1, k2, k3, k4, k5, -, -, -, -, -, -⟩ := own_cells6 hW
  refine bodyPost_ret (by simp [results, Try.results37, go_sem, k0, k1, k2, k3, k4, k5]; try rfl) rfl ?_
  have hkey : nx (pBh 2 64520) (.ok l1) = nx pZero (nx (pU 32) (.ok l1)) ∧ ∀ z l', bd (.ok l1) (pBh 2 64520) = .ok (z, l') → ⟨64520, y, 0, 0, [], 0⟩ = z := by
    rw [pBh2, show pNm 64520 0 = pU 32 from rfl, show pNm 64520 1 = pZero from rfl]; exact bh_two (f := fun a b => (⟨64520, a, b, 0, [], 0⟩ : Ins)) HV.out (zero_val _)
  exact ⟨⟨64520, y, 0, 0, [], 0⟩, none, 0, rfl, by rw [HE.out.1, hkey.1]; exact HZ.out.1, LabX.nil _ _ rfl, okA y0 y1, fun a l' h => hkey.2 a l' (by rw [← HE.out.2]; exact h), HZ.out.2.1⟩

set_option maxHeartbeats 4000000 in
theorem rin2 (g : Nat) (b l1 : List Int) (op : Int) (w : World) (h : RfAt5 w g (.ok b)) (hp : pOp b = .ok (op, l1)) (hk : kd op = (2, 0)) (n64522 : op ≠ 64522) (n64520 : op ≠ 64520) :
    Calls Try.prog 37 #[.pointer (some ⟨g, 0, none⟩)] w (RInPost g (.ok b) w) := by
  have HE := Lib.hid (in_eq hp hk)
  have HP := Lib.hid hp
  have e64522 : (op == 64522) = false := by simpa using n64522
  have e64520 : (op == 64520) = false := by simpa using n64520
  have HNM : Hid (pNm op 0 = pU 32 ∧ pNm op 1 = pU 32) := by
    have m1 : op ≠ 63 := by rintro rfl; exact absurd hk (by decide)
    have m2 : op ≠ 64 := by rintro rfl; exact absurd hk (by decide)
    have m3 : op ≠ 64523 := by rintro rfl; exact absurd hk (by decide)
    have m : nums op = 2 := by unfold nums; rw [if_neg (by omega), if_neg (by omega)]
    unfold Hid pNm; rw [m]; exact ⟨rfl, rfl⟩
  clear n64522 n64520
  have HK := Lib.hid hk
  have HR0 : Hid (RfAt5 (w.alloc (.cells #[.int .i64 0, .int .u32 0, .int .u32 0, .int .u64 0, .slice none 0 0, .int .i64 0] 43)) g (.ok b) ∧ Own (w.alloc (.cells #[.int .i64 0, .int .u32 0, .int .u32 0, .int .u64 0, .slice none 0 0, .int .i64 0] 43)) w.heap.size 43 zC ∧ g < w.heap.size ∧ Chg (fun k => k = g) w (w.alloc (.cells #[.int .i64 0, .int .u32 0, .int .u32 0, .int .u64 0, .slice none 0 0, .int .i64 0] 43))) :=
    ⟨h.later ((Below.refl _ _).alloc (Nat.le_refl _) _), Own.new w _ _, h.lt, Chg.alloc _ _⟩
  clear h hp hk
  go_enter Try.func37, Try.ntmps37
  go_wp2_with fail
  refine (fop5_any g _ _ HR0.out.1).mono ?_
  rintro e w1 ⟨x, rfl, x0, x1, h2, h3, h4⟩
  have hx := h3 op l1 (by rw [bd_ok]; exact HP.out)
  subst hx
  rw [nx_ok, HP.out] at h2
  simp only [bd_ok] at h2
  have HT : Hid (F3 w g w1.heap.size w.heap.size (.ok l1) (insC ⟨x, 0, 0, 0, [], 0⟩ none 0) (w1.alloc (.cells #[.int .i64 x, .int .u32 0, .int .u32 0, .int .u64 0, .slice none 0 0, .int .i64 0] 43))) := by
    have hb := (Below.refl w1.heap.size w1).alloc (Nat.le_refl _) (.cells #[.int .i64 x, .int .u32 0, .int .u32 0, .int .u64 0, .slice none 0 0, .int .i64 0] 43)
    have hg := HR0.out.2.2.1
    have hl := (HR0.out.2.1.chg h4 (by omega)).lt
    exact ⟨h2.later hb, Own.new w1 _ _, (HR0.out.2.1.chg h4 (by omega)).later hb, hg, hl, Nat.le_refl _, (HR0.out.2.2.2.trans h4 fun k _ e => e).trans (Chg.alloc (S := fun k => k = g) w1 _) fun k _ e => e⟩
  have hE0 := HT.out.1.own0
  clear h2 h3 h4 HR0 HP
  go_wp2_with (go_at_call 51; refine (refKind_any x _).mono ?_; unfold pr; rw [HK.out]; rintro e w' ⟨rfl, rfl⟩)
  refine (ffail05_any g l1 _ HT.out.1).mono ?_
  rintro e w2 ⟨⟨u, rfl⟩, h2, hc⟩
  have HT2 := Lib.hid (HT.out.step h2 hc)
  have hgi := HT.out.2.2.2.2.1
  clear h2 hc HT hE0
  have HT := Lib.hid HT2.out
  clear HT2
  obtain ⟨c0, c1, c2, c3, c4, c5, f0, f1, f2, f3, f4, f5⟩ := own_cells6 HT.out.2.1
  simp only [List.length_nil] at c4
  generalize w1.heap.size = gi at *
  generalize hgr : w.heap.size = gr at *
  have HGR := Lib.hid hgr
  clear hgr
  go_wp2_with fail
  refine (fU325_any g _ _ HT.out.1).mono ?_
  rintro e w3 ⟨y, rfl, y0, y1, h2, h3, h4⟩
  have HT2 := Lib.hid (HT.out.step h2 h4)
  have HV := Lib.hid h3
  clear h2 h3 h4 HT c0 c1 c2 c3 c4 c5 f0 f1 f2 f3 f4 f5
  have HT := Lib.hid HT2.out
  clear HT2
  obtain ⟨c0, c1, c2, c3, c4, c5, f0, f1, f2, f3, f4, f5⟩ := own_cells6 HT.out.2.1
  simp only [List.length_nil] at c4
  have HT2 := Lib.hid (HT.out.set 1 (.int .u32 y))
  clear HT
  have HT := Lib.hid HT2.out
  clear HT2
  go_wp2_with fail
  refine (fU325_any g _ _ HT.out.1).mono ?_
  rintro e w4 ⟨q, rfl, q0, q1, h2, h3, h4⟩
  have HT2 := Lib.hid (HT.out.step h2 h4)
  have HV2 := Lib.hid h3
  clear h2 h3 h4 HT c0 c1 c2 c3 c4 c5 f0 f1 f2 f3 f4 f5
  have HT := Lib.hid HT2.out
  clear HT2
  obtain ⟨c0, c1, c2, c3, c4, c5, f0, f1, f2, f3, f4, f5⟩ := own_cells6 HT.out.2.1
  simp only [List.length_nil] at c4
  have HT2 := Lib.hid (HT.out.set 2 (.int .u32 q))
  clear HT
  have HT := Lib.hid HT2.out
  clear HT2
  obtain ⟨r0, r1, r2, r3, r4, r5, s0, s1, s2, s3, s4, s5⟩ := own_cells6 HT.out.2.2.1
  have hgg : ¬ gi = gr := by omega
  have hgg2 : ¬ gr = gi := by omega
  go_wp2
  have hW0 := HT.out
  have hW := own_put6 hW0.2.2.1 (.int .i64 x) (.int .u32 y) (.int .u32 q) (.int .u64 0) (.slice none 0 0) (.int .i64 0)
  have hC := chg6 (w4.setCell ⟨gi, 2, none⟩ (.int .u32 q)) gr #[.int .i64 x, .int .u32 y, .int .u32 q, .int .u64 0, .slice none 0 0, .int .i64 0]
  have hRF := hW0.1.chg hC (fun k hk e => by have := hW0.2.2.2.1; omega)
  have hCH := hW0.2.2.2.2.2.2.trans hC fun k hk e => by have := hW0.2.2.2.2.2.1; omega
  have HZ := Lib.hid (And.intro hRF (And.intro hCH hC))
  clear hRF hCH
  show bodyPost _ _ _ _ _ (put6 (w4.setCell ⟨gi, 2, none⟩ (.int .u32 q)) gr #[.int .i64 x, .int .u32 y, .int .u32 q, .int .u64 0, .slice none 0 0, .int .i64 0])
  generalize put6 (w4.setCell ⟨gi, 2, none⟩ (.int .u32 q)) gr #[.int .i64 x, .int .u32 y, .int .u32 q, .int .u64 0, .slice none 0 0, .int .i64 0] = WE at *
  clear c0 c1 c2 c3 c4 c5 f0 f1 f2 f3 f4 f5 r0 r1 r2 r3 r4 r5 s0 s1 s2 s3 s4 s5
  obtain ⟨k0, k1, k2, k3, k4, k5, -, -, -, -, -, -⟩ := own_cells6 hW
  refine bodyPost_ret (by simp [results, Try.results37, go_sem, k0, k1, k2, k3, k4, k5]; try rfl) rfl ?_
  have hkey : nx (pBh 2 x) (.ok l1) = nx (pU 32) (nx (pU 32) (.ok l1)) ∧ ∀ z l', bd (.ok l1) (pBh 2 x) = .ok (z, l') → ⟨x, y, q, 0, [], 0⟩ = z := by
    rw [pBh2, HNM.out.1, HNM.out.2]; exact bh_two (f := fun a b => (⟨x, a, b, 0, [], 0⟩ : Ins)) HV.out HV2.out
  exact ⟨⟨x, y, q, 0, [], 0⟩, none, 0, rfl, by rw [HE.out.1, hkey.1]; exact HZ.out.1, LabX.nil _ _ rfl, okAB y0 y1 q0 q1, fun a l' h => hkey.2 a l' (by rw [← HE.out.2]; exact h), HZ.out.2.1⟩

set_option maxHeartbeats 4000000 in
theorem rin3 (g : Nat) (b l1 : List Int) (op : Int) (w : World) (h : RfAt5 w g (.ok b)) (hp : pOp b = .ok (op, l1)) (hk : kd op = (3, 0)) :
    Calls Try.prog 37 #[.pointer (some ⟨g, 0, none⟩)] w (RInPost g (.ok b) w) := by
  have HE := Lib.hid (in_eq hp hk)
  have HP := Lib.hid hp
  have HK := Lib.hid hk
  have HR0 : Hid (RfAt5 (w.alloc (.cells #[.int .i64 0, .int .u32 0, .int .u32 0, .int .u64 0, .slice none 0 0, .int .i64 0] 43)) g (.ok b) ∧ Own (w.alloc (.cells #[.int .i64 0, .int .u32 0, .int .u32 0, .int .u64 0, .slice none 0 0, .int .i64 0] 43)) w.heap.size 43 zC ∧ g < w.heap.size ∧ Chg (fun k => k = g) w (w.alloc (.cells #[.int .i64 0, .int .u32 0, .int .u32 0, .int .u64 0, .slice none 0 0, .int .i64 0] 43))) :=
    ⟨h.later ((Below.refl _ _).alloc (Nat.le_refl _) _), Own.new w _ _, h.lt, Chg.alloc _ _⟩
  clear h hp hk
  go_enter Try.func37, Try.ntmps37
  go_wp2_with fail
  refine (fop5_any g _ _ HR0.out.1).mono ?_
  rintro e w1 ⟨x, rfl, x0, x1, h2, h3, h4⟩
  have hx := h3 op l1 (by rw [bd_ok]; exact HP.out)
  subst hx
  rw [nx_ok, HP.out] at h2
  simp only [bd_ok] at h2
  have HT : Hid (F3 w g w1.heap.size w.heap.size (.ok l1) (insC ⟨x, 0, 0, 0, [], 0⟩ none 0) (w1.alloc (.cells #[.int .i64 x, .int .u32 0, .int .u32 0, .int .u64 0, .slice none 0 0, .int .i64 0] 43))) := by
    have hb := (Below.refl w1.heap.size w1).alloc (Nat.le_refl _) (.cells #[.int .i64 x, .int .u32 0, .int .u32 0, .int .u64 0, .slice none 0 0, .int .i64 0] 43)
    have hg := HR0.out.2.2.1
    have hl := (HR0.out.2.1.chg h4 (by omega)).lt
    exact ⟨h2.later hb, Own.new w1 _ _, (HR0.out.2.1.chg h4 (by omega)).later hb, hg, hl, Nat.le_refl _, (HR0.out.2.2.2.trans h4 fun k _ e => e).trans (Chg.alloc (S := fun k => k = g) w1 _) fun k _ e => e⟩
  have hE0 := HT.out.1.own0
  clear h2 h3 h4 HR0 HP
  go_wp2_with (go_at_call 51; refine (refKind_any x _).mono ?_; unfold pr; rw [HK.out]; rintro e w' ⟨rfl, rfl⟩)
  refine (ffail05_any g l1 _ HT.out.1).mono ?_
  rintro e w2 ⟨⟨u, rfl⟩, h2, hc⟩
  have HT2 := Lib.hid (HT.out.step h2 hc)
  have hgi := HT.out.2.2.2.2.1
  clear h2 hc HT hE0
  have HT := Lib.hid HT2.out
  clear HT2
  obtain ⟨c0, c1, c2, c3, c4, c5, f0, f1, f2, f3, f4, f5⟩ := own_cells6 HT.out.2.1
  simp only [List.length_nil] at c4
  generalize w1.heap.size = gi at *
  generalize hgr : w.heap.size = gr at *
  have HGR := Lib.hid hgr
  clear hgr
  go_wp2_with fail
  refine (fS325_any g _ _ HT.out.1).mono ?_
  rintro e w3 ⟨y, rfl, y0, y1, h2, h3, h4⟩
  have HT2 := Lib.hid (HT.out.step h2 h4)
  have HV := Lib.hid h3
  clear h2 h3 h4 HT c0 c1 c2 c3 c4 c5 f0 f1 f2 f3 f4 f5
  have HT := Lib.hid HT2.out
  clear HT2
  obtain ⟨c0, c1, c2, c3, c4, c5, f0, f1, f2, f3, f4, f5⟩ := own_cells6 HT.out.2.1
  simp only [List.length_nil] at c4
  have HT2 := Lib.hid (HT.out.set 3 (.int .u64 y))
  clear HT
  have HT := Lib.hid HT2.out
  clear HT2
  obtain ⟨r0, r1, r2, r3, r4, r5, s0, s1, s2, s3, s4, s5⟩ := own_cells6 HT.out.2.2.1
  have hgg : ¬ gi = gr := by omega
  have hgg2 : ¬ gr = gi := by omega
  go_wp2
  have hW0 := HT.out
  have hW := own_put6 hW0.2.2.1 (.int .i64 x) (.int .u32 0) (.int .u32 0) (.int .u64 y) (.slice none 0 0) (.int .i64 0)
  have hC := chg6 (w3.setCell ⟨gi, 3, none⟩ (.int .u64 y)) gr #[.int .i64 x, .int .u32 0, .int .u32 0, .int .u64 y, .slice none 0 0, .int .i64 0]
  have hRF := hW0.1.chg hC (fun k hk e => by have := hW0.2.2.2.1; omega)
  have hCH := hW0.2.2.2.2.2.2.trans hC fun k hk e => by have := hW0.2.2.2.2.2.1; omega
  have HZ := Lib.hid (And.intro hRF (And.intro hCH hC))
  clear hRF hCH
  show bodyPost _ _ _ _ _ (put6 (w3.setCell ⟨gi, 3, none⟩ (.int .u64 y)) gr #[.int .i64 x, .int .u32 0, .int .u32 0, .int .u64 y, .slice none 0 0, .int .i64 0])
  generalize put6 (w3.setCell ⟨gi, 3, none⟩ (.int .u64 y)) gr #[.int .i64 x, .int .u32 0, .int .u32 0, .int .u64 y, .slice none 0 0, .int .i64 0] = WE at *
  clear c0 c1 c2 c3 c4 c5 f0 f1 f2 f3 f4 f5 r0 r1 r2 r3 r4 r5 s0 s1 s2 s3 s4 s5
  obtain ⟨k0, k1, k2, k3, k4, k5, -, -, -, -, -, -⟩ := own_cells6 hW
  refine bodyPost_ret (by simp [results, Try.results37, go_sem, k0, k1, k2, k3, k4, k5]; try rfl) rfl ?_
  have hkey : nx (pBh 3 x) (.ok l1) = nx (pS 32) (.ok l1) ∧ ∀ z l', bd (.ok l1) (pBh 3 x) = .ok (z, l') → ⟨x, 0, 0, y, [], 0⟩ = z := by
    rw [pBh3]; exact bh_rel (R := fun x a => x = a % 4294967296) (x := y) (f := fun a => (⟨x, 0, 0, a % 4294967296, [], 0⟩ : Ins)) HV.out (fun b e => by rw [e])
  exact ⟨⟨x, 0, 0, y, [], 0⟩, none, 0, rfl, by rw [HE.out.1, hkey.1]; exact HZ.out.1, LabX.nil _ _ rfl, okN y0 (by omega), fun a l' h => hkey.2 a l' (by rw [← HE.out.2]; exact h), HZ.out.2.1⟩

set_option maxHeartbeats 4000000 in
theorem rin4 (g : Nat) (b l1 : List Int) (op : Int) (w : World) (h : RfAt5 w g (.ok b)) (hp : pOp b = .ok (op, l1)) (hk : kd op = (4, 0)) :
    Calls Try.prog 37 #[.pointer (some ⟨g, 0, none⟩)] w (RInPost g (.ok b) w) := by
  have HE := Lib.hid (in_eq hp hk)
  have HP := Lib.hid hp
  have HK := Lib.hid hk
  have HR0 : Hid (RfAt5 (w.alloc (.cells #[.int .i64 0, .int .u32 0, .int .u32 0, .int .u64 0, .slice none 0 0, .int .i64 0] 43)) g (.ok b) ∧ Own (w.alloc (.cells #[.int .i64 0, .int .u32 0, .int .u32 0, .int .u64 0, .slice none 0 0, .int .i64 0] 43)) w.heap.size 43 zC ∧ g < w.heap.size ∧ Chg (fun k => k = g) w (w.alloc (.cells #[.int .i64 0, .int .u32 0, .int .u32 0, .int .u64 0, .slice none 0 0, .int .i64 0] 43))) :=
    ⟨h.later ((Below.refl _ _).alloc (Nat.le_refl _) _), Own.new w _ _, h.lt, Chg.alloc _ _⟩
  clear h hp hk
  go_enter Try.func37, Try.ntmps37
  go_wp2_with fail
  refine (fop5_any g _ _ HR0.out.1).mono ?_
  rintro e w1 ⟨x, rfl, x0, x1, h2, h3, h4⟩
  have hx := h3 op l1 (by rw [bd_ok]; exact HP.out)
  subst hx
  rw [nx_ok, HP.out] at h2
  simp only [bd_ok] at h2
  have HT : Hid (F3 w g w1.heap.size w.heap.size (.ok l1) (insC ⟨x, 0, 0, 0, [], 0⟩ none 0) (w1.alloc (.cells #[.int .i64 x, .int .u32 0, .int .u32 0, .int .u64 0, .slice none 0 0, .int .i64 0] 43))) := by
    have hb := (Below.refl w1.heap.size w1).alloc (Nat.le_refl _) (.cells #[.int .i64 x, .int .u32 0, .int .u32 0, .int .u64 0, .slice none 0 0, .int .i64 0] 43)
    have hg := HR0.out.2.2.1
    have hl := (HR0.out.2.1.chg h4 (by omega)).lt
    exact ⟨h2.later hb, Own.new w1 _ _, (HR0.out.2.1.chg h4 (by omega)).later hb, hg, hl, Nat.le_refl _, (HR0.out.2.2.2.trans h4 fun k _ e => e).trans (Chg.alloc (S := fun k => k = g) w1 _) fun k _ e => e⟩
  have hE0 := HT.out.1.own0
  clear h2 h3 h4 HR0 HP
  go_wp2_with (go_at_call 51; refine (refKind_any x _).mono ?_; unfold pr; rw [HK.out]; rintro e w' ⟨rfl, rfl⟩)
  refine (ffail05_any g l1 _ HT.out.1).mono ?_
  rintro e w2 ⟨⟨u, rfl⟩, h2, hc⟩
  have HT2 := Lib.hid (HT.out.step h2 hc)
  have hgi := HT.out.2.2.2.2.1
  clear h2 hc HT hE0
  have HT := Lib.hid HT2.out
  clear HT2
  obtain ⟨c0, c1, c2, c3, c4, c5, f0, f1, f2, f3, f4, f5⟩ := own_cells6 HT.out.2.1
  simp only [List.length_nil] at c4
  generalize w1.heap.size = gi at *
  generalize hgr : w.heap.size = gr at *
  have HGR := Lib.hid hgr
  clear hgr
  go_wp2_with fail
  refine (fS645_any g _ _ HT.out.1).mono ?_
  rintro e w3 ⟨y, rfl, y0, y1, h2, h3, h4⟩
  have HT2 := Lib.hid (HT.out.step h2 h4)
  have HV := Lib.hid h3
  clear h2 h3 h4 HT c0 c1 c2 c3 c4 c5 f0 f1 f2 f3 f4 f5
  have HT := Lib.hid HT2.out
  clear HT2
  obtain ⟨c0, c1, c2, c3, c4, c5, f0, f1, f2, f3, f4, f5⟩ := own_cells6 HT.out.2.1
  simp only [List.length_nil] at c4
  have HT2 := Lib.hid (HT.out.set 3 (.int .u64 y))
  clear HT
  have HT := Lib.hid HT2.out
  clear HT2
  obtain ⟨r0, r1, r2, r3, r4, r5, s0, s1, s2, s3, s4, s5⟩ := own_cells6 HT.out.2.2.1
  have hgg : ¬ gi = gr := by omega
  have hgg2 : ¬ gr = gi := by omega
  go_wp2
  have hW0 := HT.out
  have hW := own_put6 hW0.2.2.1 (.int .i64 x) (.int .u32 0) (.int .u32 0) (.int .u64 y) (.slice none 0 0) (.int .i64 0)
  have hC := chg6 (w3.setCell ⟨gi, 3, none⟩ (.int .u64 y)) gr #[.int .i64 x, .int .u32 0, .int .u32 0, .int .u64 y, .slice none 0 0, .int .i64 0]
  have hRF := hW0.1.chg hC (fun k hk e => by have := hW0.2.2.2.1; omega)
  have hCH := hW0.2.2.2.2.2.2.trans hC fun k hk e => by have := hW0.2.2.2.2.2.1; omega
  have HZ := Lib.hid (And.intro hRF (And.intro hCH hC))
  clear hRF hCH
  show bodyPost _ _ _ _ _ (put6 (w3.setCell ⟨gi, 3, none⟩ (.int .u64 y)) gr #[.int .i64 x, .int .u32 0, .int .u32 0, .int .u64 y, .slice none 0 0, .int .i64 0])
  generalize put6 (w3.setCell ⟨gi, 3, none⟩ (.int .u64 y)) gr #[.int .i64 x, .int .u32 0, .int .u32 0, .int .u64 y, .slice none 0 0, .int .i64 0] = WE at *
  clear c0 c1 c2 c3 c4 c5 f0 f1 f2 f3 f4 f5 r0 r1 r2 r3 r4 r5 s0 s1 s2 s3 s4 s5
  obtain ⟨k0, k1, k2, k3, k4, k5, -, -, -, -, -, -⟩ := own_cells6 hW
  refine bodyPost_ret (by simp [results, Try.results37, go_sem, k0, k1, k2, k3, k4, k5]; try rfl) rfl ?_
  have hkey : nx (pBh 4 x) (.ok l1) = nx (pS 64) (.ok l1) ∧ ∀ z l', bd (.ok l1) (pBh 4 x) = .ok (z, l') → ⟨x, 0, 0, y, [], 0⟩ = z := by
    rw [pBh4]; exact bh_rel (R := fun x a => x = a % 18446744073709551616) (x := y) (f := fun a => (⟨x, 0, 0, a % 18446744073709551616, [], 0⟩ : Ins)) HV.out (fun b e => by rw [e])
  exact ⟨⟨x, 0, 0, y, [], 0⟩, none, 0, rfl, by rw [HE.out.1, hkey.1]; exact HZ.out.1, LabX.nil _ _ rfl, okN y0 (by omega), fun a l' h => hkey.2 a l' (by rw [← HE.out.2]; exact h), HZ.out.2.1⟩

set_option maxHeartbeats 4000000 in
theorem rin6 (g : Nat) (b l1 : List Int) (op : Int) (w : World) (h : RfAt5 w g (.ok b)) (hp : pOp b = .ok (op, l1)) (hk : kd op = (6, 0)) :
    Calls Try.prog 37 #[.pointer (some ⟨g, 0, none⟩)] w (RInPost g (.ok b) w) := by
  have HE := Lib.hid (in_eq hp hk)
  have HP := Lib.hid hp
  have HK := Lib.hid hk
  have HR0 : Hid (RfAt5 (w.alloc (.cells #[.int .i64 0, .int .u32 0, .int .u32 0, .int .u64 0, .slice none 0 0, .int .i64 0] 43)) g (.ok b) ∧ Own (w.alloc (.cells #[.int .i64 0, .int .u32 0, .int .u32 0, .int .u64 0, .slice none 0 0, .int .i64 0] 43)) w.heap.size 43 zC ∧ g < w.heap.size ∧ Chg (fun k => k = g) w (w.alloc (.cells #[.int .i64 0, .int .u32 0, .int .u32 0, .int .u64 0, .slice none 0 0, .int .i64 0] 43))) :=
    ⟨h.later ((Below.refl _ _).alloc (Nat.le_refl _) _), Own.new w _ _, h.lt, Chg.alloc _ _⟩
  clear h hp hk
  go_enter Try.func37, Try.ntmps37
  go_wp2_with fail
  refine (fop5_any g _ _ HR0.out.1).mono ?_
  rintro e w1 ⟨x, rfl, x0, x1, h2, h3, h4⟩
  have hx := h3 op l1 (by rw [bd_ok]; exact HP.out)
  subst hx
  rw [nx_ok, HP.out] at h2
  simp only [bd_ok] at h2
  have HT : Hid (F3 w g w1.heap.size w.heap.size (.ok l1) (insC ⟨x, 0, 0, 0, [], 0⟩ none 0) (w1.alloc (.cells #[.int .i64 x, .int .u32 0, .int .u32 0, .int .u64 0, .slice none 0 0, .int .i64 0] 43))) := by
    have hb := (Below.refl w1.heap.size w1).alloc (Nat.le_refl _) (.cells #[.int .i64 x, .int .u32 0, .int .u32 0, .int .u64 0, .slice none 0 0, .int .i64 0] 43)
    have hg := HR0.out.2.2.1
    have hl := (HR0.out.2.1.chg h4 (by omega)).lt
    exact ⟨h2.later hb, Own.new w1 _ _, (HR0.out.2.1.chg h4 (by omega)).later hb, hg, hl, Nat.le_refl _, (HR0.out.2.2.2.trans h4 fun k _ e => e).trans (Chg.alloc (S := fun k => k = g) w1 _) fun k _ e => e⟩
  have hE0 := HT.out.1.own0
  clear h2 h3 h4 HR0 HP
  go_wp2_with (go_at_call 51; refine (refKind_any x _).mono ?_; unfold pr; rw [HK.out]; rintro e w' ⟨rfl, rfl⟩)
  refine (ffail05_any g l1 _ HT.out.1).mono ?_
  rintro e w2 ⟨⟨u, rfl⟩, h2, hc⟩
  have HT2 := Lib.hid (HT.out.step h2 hc)
  have hgi := HT.out.2.2.2.2.1
  clear h2 hc HT hE0
  have HT := Lib.hid HT2.out
  clear HT2
  obtain ⟨c0, c1, c2, c3, c4, c5, f0, f1, f2, f3, f4, f5⟩ := own_cells6 HT.out.2.1
  simp only [List.length_nil] at c4
  generalize w1.heap.size = gi at *
  generalize hgr : w.heap.size = gr at *
  have HGR := Lib.hid hgr
  clear hgr
  go_wp2_with fail
  refine (fblock5_any g _ _ HT.out.1).mono ?_
  rintro e w3 ⟨y, rfl, y0, y1, h2, h3, h4⟩
  have HT2 := Lib.hid (HT.out.step h2 h4)
  have HV := Lib.hid h3
  clear h2 h3 h4 HT c0 c1 c2 c3 c4 c5 f0 f1 f2 f3 f4 f5
  have HT := Lib.hid HT2.out
  clear HT2
  obtain ⟨c0, c1, c2, c3, c4, c5, f0, f1, f2, f3, f4, f5⟩ := own_cells6 HT.out.2.1
  simp only [List.length_nil] at c4
  have HT2 := Lib.hid (HT.out.set 5 (.int .i64 y))
  clear HT
  have HT := Lib.hid HT2.out
  clear HT2
  obtain ⟨r0, r1, r2, r3, r4, r5, s0, s1, s2, s3, s4, s5⟩ := own_cells6 HT.out.2.2.1
  have hgg : ¬ gi = gr := by omega
  have hgg2 : ¬ gr = gi := by omega
  go_wp2
  have hW0 := HT.out
  have hW := own_put6 hW0.2.2.1 (.int .i64 x) (.int .u32 0) (.int .u32 0) (.int .u64 0) (.slice none 0 0) (.int .i64 y)
  have hC := chg6 (w3.setCell ⟨gi, 5, none⟩ (.int .i64 y)) gr #[.int .i64 x, .int .u32 0, .int .u32 0, .int .u64 0, .slice none 0 0, .int .i64 y]
  have hRF := hW0.1.chg hC (fun k hk e => by have := hW0.2.2.2.1; omega)
  have hCH := hW0.2.2.2.2.2.2.trans hC fun k hk e => by have := hW0.2.2.2.2.2.1; omega
  have HZ := Lib.hid (And.intro hRF (And.intro hCH hC))
  clear hRF hCH
  show bodyPost _ _ _ _ _ (put6 (w3.setCell ⟨gi, 5, none⟩ (.int .i64 y)) gr #[.int .i64 x, .int .u32 0, .int .u32 0, .int .u64 0, .slice none 0 0, .int .i64 y])
  generalize put6 (w3.setCell ⟨gi, 5, none⟩ (.int .i64 y)) gr #[.int .i64 x, .int .u32 0, .int .u32 0, .int .u64 0, .slice none 0 0, .int .i64 y] = WE at *
  clear c0 c1 c2 c3 c4 c5 f0 f1 f2 f3 f4 f5 r0 r1 r2 r3 r4 r5 s0 s1 s2 s3 s4 s5
  obtain ⟨k0, k1, k2, k3, k4, k5, -, -, -, -, -, -⟩ := own_cells6 hW
  refine bodyPost_ret (by simp [results, Try.results37, go_sem, k0, k1, k2, k3, k4, k5]; try rfl) rfl ?_
  have hkey : nx (pBh 6 x) (.ok l1) = nx pBl (.ok l1) ∧ ∀ z l', bd (.ok l1) (pBh 6 x) = .ok (z, l') → ⟨x, 0, 0, 0, [], y⟩ = z := by
    rw [pBh6]; exact bh_one (f := fun a => (⟨x, 0, 0, 0, [], a⟩ : Ins)) HV.out
  exact ⟨⟨x, 0, 0, 0, [], y⟩, none, 0, rfl, by rw [HE.out.1, hkey.1]; exact HZ.out.1, LabX.nil _ _ rfl, okT y0 y1, fun a l' h => hkey.2 a l' (by rw [← HE.out.2]; exact h), HZ.out.2.1⟩

set_option maxHeartbeats 4000000 in
theorem rin5 (g : Nat) (b l1 : List Int) (op : Int) (w : World) (h : RfAt5 w g (.ok b)) (hp : pOp b = .ok (op, l1)) (hk : kd op = (5, 0)) :
    Calls Try.prog 37 #[.pointer (some ⟨g, 0, none⟩)] w (RInPost g (.ok b) w) := by
  have HE := Lib.hid (in_eq hp hk)
  have HP := Lib.hid hp
  have HK := Lib.hid hk
  have HR0 : Hid (RfAt5 (w.alloc (.cells #[.int .i64 0, .int .u32 0, .int .u32 0, .int .u64 0, .slice none 0 0, .int .i64 0] 43)) g (.ok b) ∧ Own (w.alloc (.cells #[.int .i64 0, .int .u32 0, .int .u32 0, .int .u64 0, .slice none 0 0, .int .i64 0] 43)) w.heap.size 43 zC ∧ g < w.heap.size ∧ Chg (fun k => k = g) w (w.alloc (.cells #[.int .i64 0, .int .u32 0, .int .u32 0, .int .u64 0, .slice none 0 0, .int .i64 0] 43))) :=
    ⟨h.later ((Below.refl _ _).alloc (Nat.le_refl _) _), Own.new w _ _, h.lt, Chg.alloc _ _⟩
  clear h hp hk
  go_enter Try.func37, Try.ntmps37
  go_wp2_with fail
  refine (fop5_any g _ _ HR0.out.1).mono ?_
  rintro e w1 ⟨x, rfl, x0, x1, h2, h3, h4⟩
  have hx := h3 op l1 (by rw [bd_ok]; exact HP.out)
  subst hx
  rw [nx_ok, HP.out] at h2
  simp only [bd_ok] at h2
  have HT : Hid (F3 w g w1.heap.size w.heap.size (.ok l1) (insC ⟨x, 0, 0, 0, [], 0⟩ none 0) (w1.alloc (.cells #[.int .i64 x, .int .u32 0, .int .u32 0, .int .u64 0, .slice none 0 0, .int .i64 0] 43))) := by
    have hb := (Below.refl w1.heap.size w1).alloc (Nat.le_refl _) (.cells #[.int .i64 x, .int .u32 0, .int .u32 0, .int .u64 0, .slice none 0 0, .int .i64 0] 43)
    have hg := HR0.out.2.2.1
    have hl := (HR0.out.2.1.chg h4 (by omega)).lt
    exact ⟨h2.later hb, Own.new w1 _ _, (HR0.out.2.1.chg h4 (by omega)).later hb, hg, hl, Nat.le_refl _, (HR0.out.2.2.2.trans h4 fun k _ e => e).trans (Chg.alloc (S := fun k => k = g) w1 _) fun k _ e => e⟩
  have hE0 := HT.out.1.own0
  clear h2 h3 h4 HR0 HP
  go_wp2_with (go_at_call 51; refine (refKind_any x _).mono ?_; unfold pr; rw [HK.out]; rintro e w' ⟨rfl, rfl⟩)
  refine (ffail05_any g l1 _ HT.out.1).mono ?_
  rintro e w2 ⟨⟨u, rfl⟩, h2, hc⟩
  have HT2 := Lib.hid (HT.out.step h2 hc)
  have hgi := HT.out.2.2.2.2.1
  clear h2 hc HT hE0
  have HT := Lib.hid HT2.out
  clear HT2
  obtain ⟨c0, c1, c2, c3, c4, c5, f0, f1, f2, f3, f4, f5⟩ := own_cells6 HT.out.2.1
  simp only [List.length_nil] at c4
  generalize w1.heap.size = gi at *
  generalize hgr : w.heap.size = gr at *
  have HGR := Lib.hid hgr
  clear hgr
  go_wp2_with fail
  refine (fU325_any g _ _ HT.out.1).mono ?_
  rintro e w3 ⟨y, rfl, y0, y1, h2, h3, h4⟩
  have HT2 := Lib.hid (HT.out.step h2 h4)
  have HV := Lib.hid h3
  clear h2 h3 h4 HT c0 c1 c2 c3 c4 c5 f0 f1 f2 f3 f4 f5
  have HT := Lib.hid HT2.out
  clear HT2
  obtain ⟨c0, c1, c2, c3, c4, c5, f0, f1, f2, f3, f4, f5⟩ := own_cells6 HT.out.2.1
  simp only [List.length_nil] at c4
  have HAL := Lib.hid (al_key HV.out)
  have HT2 := Lib.hid (HT.out.set 1 (.int .u32 y))
  clear HT
  have HT := Lib.hid HT2.out
  clear HT2
  by_cases hal : 31 < y
  · have HA := Lib.hid (HAL.out.2 hal)
    go_wp2_with fail
    refine (ffail5_any g _ 2 _ HT.out.1 (by omega) (by omega)).mono ?_
    rintro e w5 ⟨⟨u5, rfl⟩, h2, h4⟩
    rw [← HA.out.1] at h2
    have HT2 := Lib.hid (HT.out.step h2 h4)
    clear h2 h4 HT c0 c1 c2 c3 c4 c5 f0 f1 f2 f3 f4 f5
    have HT := Lib.hid HT2.out
    clear HT2
    obtain ⟨c0, c1, c2, c3, c4, c5, f0, f1, f2, f3, f4, f5⟩ := own_cells6 HT.out.2.1
    simp only [List.length_nil] at c4
    have HVA : Hid (∀ a l', bd (.ok l1) pAl = .ok (a, l') → y = a) := fun a l' h => (HA.out.2 a l' h).elim
    clear HA HAL HV
    go_wp2_with fail
    refine (fU325_any g _ _ HT.out.1).mono ?_
    rintro e w4 ⟨q, rfl, q0, q1, h2, h3, h4⟩
    have HT2 := Lib.hid (HT.out.step h2 h4)
    have HV2 := Lib.hid h3
    clear h2 h3 h4 HT c0 c1 c2 c3 c4 c5 f0 f1 f2 f3 f4 f5
    have HT := Lib.hid HT2.out
    clear HT2
    obtain ⟨c0, c1, c2, c3, c4, c5, f0, f1, f2, f3, f4, f5⟩ := own_cells6 HT.out.2.1
    simp only [List.length_nil] at c4
    have HT2 := Lib.hid (HT.out.set 2 (.int .u32 q))
    clear HT
    have HT := Lib.hid HT2.out
    clear HT2
    obtain ⟨r0, r1, r2, r3, r4, r5, s0, s1, s2, s3, s4, s5⟩ := own_cells6 HT.out.2.2.1
    have hgg : ¬ gi = gr := by omega
    have hgg2 : ¬ gr = gi := by omega
    go_wp2
    have hW0 := HT.out
    have hW := own_put6 hW0.2.2.1 (.int .i64 x) (.int .u32 y) (.int .u32 q) (.int .u64 0) (.slice none 0 0) (.int .i64 0)
    have hC := chg6 (w4.setCell ⟨gi, 2, none⟩ (.int .u32 q)) gr #[.int .i64 x, .int .u32 y, .int .u32 q, .int .u64 0, .slice none 0 0, .int .i64 0]
    have hRF := hW0.1.chg hC (fun k hk e => by have := hW0.2.2.2.1; omega)
    have hCH := hW0.2.2.2.2.2.2.trans hC fun k hk e => by have := hW0.2.2.2.2.2.1; omega
    have HZ := Lib.hid (And.intro hRF (And.intro hCH hC))
    clear hRF hCH
    show bodyPost _ _ _ _ _ (put6 (w4.setCell ⟨gi, 2, none⟩ (.int .u32 q)) gr #[.int .i64 x, .int .u32 y, .int .u32 q, .int .u64 0, .slice none 0 0, .int .i64 0])
    generalize put6 (w4.setCell ⟨gi, 2, none⟩ (.int .u32 q)) gr #[.int .i64 x, .int .u32 y, .int .u32 q, .int .u64 0, .slice none 0 0, .int .i64 0] = WE at *
    clear c0 c1 c2 c3 c4 c5 f0 f1 f2 f3 f4 f5 r0 r1 r2 r3 r4 r5 s0 s1 s2 s3 s4 s5
    obtain ⟨k0, k1, k2, k3, k4, k5, -, -, -, -, -, -⟩ := own_cells6 hW
    refine bodyPost_ret (by simp [results, Try.results37, go_sem, k0, k1, k2, k3, k4, k5]; try rfl) rfl ?_
    have hkey : nx (pBh 5 x) (.ok l1) = nx (pU 32) (nx pAl (.ok l1)) ∧ ∀ z l', bd (.ok l1) (pBh 5 x) = .ok (z, l') → ⟨x, y, q, 0, [], 0⟩ = z := by
      rw [pBh5]; exact bh_two (f := fun a b => (⟨x, a, b, 0, [], 0⟩ : Ins)) HVA.out HV2.out
    exact ⟨⟨x, y, q, 0, [], 0⟩, none, 0, rfl, by rw [HE.out.1, hkey.1]; exact HZ.out.1, LabX.nil _ _ rfl, okAB y0 y1 q0 q1, fun a l' h => hkey.2 a l' (by rw [← HE.out.2]; exact h), HZ.out.2.1⟩
  · have HA := Lib.hid (HAL.out.1 hal)
    have HT2 : Hid (F3 w g gi gr (nx pAl (.ok l1)) ((insC ⟨x, 0, 0, 0, [], 0⟩ none 0).set 1 (.int .u32 y)) (w3.setCell ⟨gi, 1, none⟩ (.int .u32 y))) := by unfold Hid; rw [HA.out.1]; exact HT.out
    have HVA := Lib.hid HA.out.2
    clear HT HA HAL HV
    have HT := Lib.hid HT2.out
    clear HT2
    go_wp2_with fail
    refine (fU325_any g _ _ HT.out.1).mono ?_
    rintro e w4 ⟨q, rfl, q0, q1, h2, h3, h4⟩
    have HT2 := Lib.hid (HT.out.step h2 h4)
    have HV2 := Lib.hid h3
    clear h2 h3 h4 HT c0 c1 c2 c3 c4 c5 f0 f1 f2 f3 f4 f5
    have HT := Lib.hid HT2.out
    clear HT2
    obtain ⟨c0, c1, c2, c3, c4, c5, f0, f1, f2, f3, f4, f5⟩ := own_cells6 HT.out.2.1
    simp only [List.length_nil] at c4
    have HT2 := Lib.hid (HT.out.set 2 (.int .u32 q))
    clear HT
    have HT := Lib.hid HT2.out
    clear HT2
    obtain ⟨r0, r1, r2, r3, r4, r5, s0, s1, s2, s3, s4, s5⟩ := own_cells6 HT.out.2.2.1
    have hgg : ¬ gi = gr := by omega
    have hgg2 : ¬ gr = gi := by omega
    go_wp2
    have hW0 := HT.out
    have hW := own_put6 hW0.2.2.1 (.int .i64 x) (.int .u32 y) (.int .u32 q) (.int .u64 0) (.slice none 0 0) (.int .i64 0)
    have hC := chg6 (w4.setCell ⟨gi, 2, none⟩ (.int .u32 q)) gr #[.int .i64 x, .int .u32 y, .int .u32 q, .int .u64 0, .slice none 0 0, .int .i64 0]
    have hRF := hW0.1.chg hC (fun k hk e => by have := hW0.2.2.2.1; omega)
    have hCH := hW0.2.2.2.2.2.2.trans hC fun k hk e => by have := hW0.2.2.2.2.2.1; omega
    have HZ := Lib.hid (And.intro hRF (And.intro hCH hC))
    clear hRF hCH
    show bodyPost _ _ _ _ _ (put6 (w4.setCell ⟨gi, 2, none⟩ (.int .u32 q)) gr #[.int .i64 x, .int .u32 y, .int .u32 q, .int .u64 0, .slice none 0 0, .int .i64 0])
    generalize put6 (w4.setCell ⟨gi, 2, none⟩ (.int .u32 q)) gr #[.int .i64 x, .int .u32 y, .int .u32 q, .int .u64 0, .slice none 0 0, .int .i64 0] = WE at *
    clear c0 c1 c2 c3 c4 c5 f0 f1 f2 f3 f4 f5 r0 r1 r2 r3 r4 r5 s0 s1 s2 s3 s4 s5
    obtain ⟨k0, k1, k2, k3, k4, k5, -, -, -, -, -, -⟩ := own_cells6 hW
    refine bodyPost_ret (by simp [results, Try.results37, go_sem, k0, k1, k2, k3, k4, k5]; try rfl) rfl ?_
    have hkey : nx (pBh 5 x) (.ok l1) = nx (pU 32) (nx pAl (.ok l1)) ∧ ∀ z l', bd (.ok l1) (pBh 5 x) = .ok (z, l') → ⟨x, y, q, 0, [], 0⟩ = z := by
      rw [pBh5]; exact bh_two (f := fun a b => (⟨x, a, b, 0, [], 0⟩ : Ins)) HVA.out HV2.out
    exact ⟨⟨x, y, q, 0, [], 0⟩, none, 0, rfl, by rw [HE.out.1, hkey.1]; exact HZ.out.1, LabX.nil _ _ rfl, okAB y0 y1 q0 q1, fun a l' h => hkey.2 a l' (by rw [← HE.out.2]; exact h), HZ.out.2.1⟩

set_option maxHeartbeats 4000000 in
theorem rin8_28 (g : Nat) (b l1 : List Int) (w : World) (h : RfAt5 w g (.ok b)) (hp : pOp b = .ok (28, l1)) (hk : kd 28 = (8, 0)) :
    Calls Try.prog 37 #[.pointer (some ⟨g, 0, none⟩)] w (RInPost g (.ok b) w) := by
  have HE := Lib.hid (in_eq hp hk)
  have HP := Lib.hid hp
  have HK := Lib.hid hk
  have HR0 : Hid (RfAt5 (w.alloc (.cells #[.int .i64 0, .int .u32 0, .int .u32 0, .int .u64 0, .slice none 0 0, .int .i64 0] 43)) g (.ok b) ∧ Own (w.alloc (.cells #[.int .i64 0, .int .u32 0, .int .u32 0, .int .u64 0, .slice none 0 0, .int .i64 0] 43)) w.heap.size 43 zC ∧ g < w.heap.size ∧ Chg (fun k => k = g) w (w.alloc (.cells #[.int .i64 0, .int .u32 0, .int .u32 0, .int .u64 0, .slice none 0 0, .int .i64 0] 43))) :=
    ⟨h.later ((Below.refl _ _).alloc (Nat.le_refl _) _), Own.new w _ _, h.lt, Chg.alloc _ _⟩
  clear h hp hk
  go_enter Try.func37, Try.ntmps37
  go_wp2_with fail
  refine (fop5_any g _ _ HR0.out.1).mono ?_
  rintro e w1 ⟨x, rfl, x0, x1, h2, h3, h4⟩
  have hx := h3 28 l1 (by rw [bd_ok]; exact HP.out)
  subst hx
  rw [nx_ok, HP.out] at h2
  simp only [bd_ok] at h2
  have HT : Hid (F3 w g w1.heap.size w.heap.size (.ok l1) (insC ⟨28, 0, 0, 0, [], 0⟩ none 0) (w1.alloc (.cells #[.int .i64 28, .int .u32 0, .int .u32 0, .int .u64 0, .slice none 0 0, .int .i64 0] 43))) := by
    have hb := (Below.refl w1.heap.size w1).alloc (Nat.le_refl _) (.cells #[.int .i64 28, .int .u32 0, .int .u32 0, .int .u64 0, .slice none 0 0, .int .i64 0] 43)
    have hg := HR0.out.2.2.1
    have hl := (HR0.out.2.1.chg h4 (by omega)).lt
    exact ⟨h2.later hb, Own.new w1 _ _, (HR0.out.2.1.chg h4 (by omega)).later hb, hg, hl, Nat.le_refl _, (HR0.out.2.2.2.trans h4 fun k _ e => e).trans (Chg.alloc (S := fun k => k = g) w1 _) fun k _ e => e⟩
  have hE0 := HT.out.1.own0
  clear h2 h3 h4 HR0 HP
  go_wp2_with (go_at_call 51; refine (refKind_any 28 _).mono ?_; unfold pr; rw [HK.out]; rintro e w' ⟨rfl, rfl⟩)
  refine (ffail05_any g l1 _ HT.out.1).mono ?_
  rintro e w2 ⟨⟨u, rfl⟩, h2, hc⟩
  have HT2 := Lib.hid (HT.out.step h2 hc)
  have hgi := HT.out.2.2.2.2.1
  clear h2 hc HT hE0
  have HT := Lib.hid HT2.out
  clear HT2
  obtain ⟨c0, c1, c2, c3, c4, c5, f0, f1, f2, f3, f4, f5⟩ := own_cells6 HT.out.2.1
  simp only [List.length_nil] at c4
  generalize w1.heap.size = gi at *
  generalize hgr : w.heap.size = gr at *
  have HGR := Lib.hid hgr
  clear hgr
  go_wp2_with fail
  refine (fU325_any g _ _ HT.out.1).mono ?_
  rintro e w3 ⟨n, rfl, n0, n1, h2, h3, h4⟩
  have HT2 := Lib.hid (HT.out.step h2 h4)
  have HVN := Lib.hid h3
  clear h2 h3 h4 HT c0 c1 c2 c3 c4 c5 f0 f1 f2 f3 f4 f5
  have HT := Lib.hid HT2.out
  clear HT2
  obtain ⟨c0, c1, c2, c3, c4, c5, f0, f1, f2, f3, f4, f5⟩ := own_cells6 HT.out.2.1
  simp only [List.length_nil] at c4
  by_cases hn : n = 1
  · subst hn
    have HSE : Hid (nx (pU 32) (.ok l1) = if (1 : Int) = 1 then nx (pU 32) (.ok l1) else failS 2 (nx (pU 32) (.ok l1))) := rfl
    go_wp2_with fail
    refine (fvalue5_any g _ _ HT.out.1).mono ?_
    rintro e w4 ⟨y, rfl, y0, y1, h2, h3, h4⟩
    have HT2 := Lib.hid (HT.out.step h2 h4)
    have HVY := Lib.hid h3
    clear h2 h3 h4 HT c0 c1 c2 c3 c4 c5 f0 f1 f2 f3 f4 f5
    have HT := Lib.hid HT2.out
    clear HT2
    obtain ⟨c0, c1, c2, c3, c4, c5, f0, f1, f2, f3, f4, f5⟩ := own_cells6 HT.out.2.1
    simp only [List.length_nil] at c4
    have HT2 := Lib.hid (HT.out.set 1 (.int .u32 y))
    clear HT
    have HT := Lib.hid HT2.out
    clear HT2
    obtain ⟨r0, r1, r2, r3, r4, r5, s0, s1, s2, s3, s4, s5⟩ := own_cells6 HT.out.2.2.1
    have hgg : ¬ gi = gr := by omega
    have hgg2 : ¬ gr = gi := by omega
    go_wp2
    have hW0 := HT.out
    have hW := own_put6 hW0.2.2.1 (.int .i64 28) (.int .u32 y) (.int .u32 0) (.int .u64 0) (.slice none 0 0) (.int .i64 0)
    have hC := chg6 (w4.setCell ⟨gi, 1, none⟩ (.int .u32 y)) gr #[.int .i64 28, .int .u32 y, .int .u32 0, .int .u64 0, .slice none 0 0, .int .i64 0]
    have hRF := hW0.1.chg hC (fun k hk e => by have := hW0.2.2.2.1; omega)
    have hCH := hW0.2.2.2.2.2.2.trans hC fun k hk e => by have := hW0.2.2.2.2.2.1; omega
    have HZ := Lib.hid (And.intro hRF (And.intro hCH hC))
    clear hRF hCH
    show bodyPost _ _ _ _ _ (put6 (w4.setCell ⟨gi, 1, none⟩ (.int .u32 y)) gr #[.int .i64 28, .int .u32 y, .int .u32 0, .int .u64 0, .slice none 0 0, .int .i64 0])
    generalize put6 (w4.setCell ⟨gi, 1, none⟩ (.int .u32 y)) gr #[.int .i64 28, .int .u32 y, .int .u32 0, .int .u64 0, .slice none 0 0, .int .i64 0] = WE at *
    clear c0 c1 c2 c3 c4 c5 f0 f1 f2 f3 f4 f5 r0 r1 r2 r3 r4 r5 s0 s1 s2 s3 s4 s5
    obtain ⟨k0, k1, k2, k3, k4, k5, -, -, -, -, -, -⟩ := own_cells6 hW
    refine bodyPost_ret (by simp [results, Try.results37, go_sem, k0, k1, k2, k3, k4, k5]; try rfl) rfl ?_
    have hkey : nx (pBh 8 28) (.ok l1) = nx pVal (nx (pU 32) (.ok l1)) ∧ ∀ z l', bd (.ok l1) (pBh 8 28) = .ok (z, l') → ⟨28, y, 0, 0, [], 0⟩ = z := by
      rw [pBh8]; have kk := ty28R HVN.out HSE.out HVY.out; rw [← kk.1]; exact bh_one (f := fun a => (⟨28, a, 0, 0, [], 0⟩ : Ins)) kk.2
    exact ⟨⟨28, y, 0, 0, [], 0⟩, none, 0, rfl, by rw [HE.out.1, hkey.1]; exact HZ.out.1, LabX.nil _ _ rfl, okA y0 (by omega), fun a l' h => hkey.2 a l' (by rw [← HE.out.2]; exact h), HZ.out.2.1⟩
  · have hnn : (n != 1) = true := by simpa using hn
    have HSE : Hid (failS 2 (nx (pU 32) (.ok l1)) = if n = 1 then nx (pU 32) (.ok l1) else failS 2 (nx (pU 32) (.ok l1))) := by unfold Hid; rw [if_neg hn]
    clear hn
    go_wp2_with fail
    refine (ffail5_any g _ 2 _ HT.out.1 (by omega) (by omega)).mono ?_
    rintro e w5 ⟨⟨u5, rfl⟩, h2, h4⟩
    have HT2 := Lib.hid (HT.out.step h2 h4)
    clear h2 h4 HT c0 c1 c2 c3 c4 c5 f0 f1 f2 f3 f4 f5
    have HT := Lib.hid HT2.out
    clear HT2
    obtain ⟨c0, c1, c2, c3, c4, c5, f0, f1, f2, f3, f4, f5⟩ := own_cells6 HT.out.2.1
    simp only [List.length_nil] at c4
    go_wp2_with fail
    refine (fvalue5_any g _ _ HT.out.1).mono ?_
    rintro e w4 ⟨y, rfl, y0, y1, h2, h3, h4⟩
    have HT2 := Lib.hid (HT.out.step h2 h4)
    have HVY := Lib.hid h3
    clear h2 h3 h4 HT c0 c1 c2 c3 c4 c5 f0 f1 f2 f3 f4 f5
    have HT := Lib.hid HT2.out
    clear HT2
    obtain ⟨c0, c1, c2, c3, c4, c5, f0, f1, f2, f3, f4, f5⟩ := own_cells6 HT.out.2.1
    simp only [List.length_nil] at c4
    have HT2 := Lib.hid (HT.out.set 1 (.int .u32 y))
    clear HT
    have HT := Lib.hid HT2.out
    clear HT2
    obtain ⟨r0, r1, r2, r3, r4, r5, s0, s1, s2, s3, s4, s5⟩ := own_cells6 HT.out.2.2.1
    have hgg : ¬ gi = gr := by omega
    have hgg2 : ¬ gr = gi := by omega
    go_wp2
    have hW0 := HT.out
    have hW := own_put6 hW0.2.2.1 (.int .i64 28) (.int .u32 y) (.int .u32 0) (.int .u64 0) (.slice none 0 0) (.int .i64 0)
    have hC := chg6 (w4.setCell ⟨gi, 1, none⟩ (.int .u32 y)) gr #[.int .i64 28, .int .u32 y, .int .u32 0, .int .u64 0, .slice none 0 0, .int .i64 0]
    have hRF := hW0.1.chg hC (fun k hk e => by have := hW0.2.2.2.1; omega)
    have hCH := hW0.2.2.2.2.2.2.trans hC fun k hk e => by have := hW0.2.2.2.2.2.1; omega
    have HZ := Lib.hid (And.intro hRF (And.intro hCH hC))
    clear hRF hCH
    show bodyPost _ _ _ _ _ (put6 (w4.setCell ⟨gi, 1, none⟩ (.int .u32 y)) gr #[.int .i64 28, .int .u32 y, .int .u32 0, .int .u64 0, .slice none 0 0, .int .i64 0])
    generalize put6 (w4.setCell ⟨gi, 1, none⟩ (.int .u32 y)) gr #[.int .i64 28, .int .u32 y, .int .u32 0, .int .u64 0, .slice none 0 0, .int .i64 0] = WE at *
    clear c0 c1 c2 c3 c4 c5 f0 f1 f2 f3 f4 f5 r0 r1 r2 r3 r4 r5 s0 s1 s2 s3 s4 s5
    obtain ⟨k0, k1, k2, k3, k4, k5, -, -, -, -, -, -⟩ := own_cells6 hW
    refine bodyPost_ret (by simp [results, Try.results37, go_sem, k0, k1, k2, k3, k4, k5]; try rfl) rfl ?_
    have hkey : nx (pBh 8 28) (.ok l1) = nx pVal (failS 2 (nx (pU 32) (.ok l1))) ∧ ∀ z l', bd (.ok l1) (pBh 8 28) = .ok (z, l') → ⟨28, y, 0, 0, [], 0⟩ = z := by
      rw [pBh8]; have kk := ty28R HVN.out HSE.out HVY.out; rw [← kk.1]; exact bh_one (f := fun a => (⟨28, a, 0, 0, [], 0⟩ : Ins)) kk.2
    exact ⟨⟨28, y, 0, 0, [], 0⟩, none, 0, rfl, by rw [HE.out.1, hkey.1]; exact HZ.out.1, LabX.nil _ _ rfl, okA y0 (by omega), fun a l' h => hkey.2 a l' (by rw [← HE.out.2]; exact h), HZ.out.2.1⟩
set_option maxHeartbeats 4000000 in
theorem rin8_208 (g : Nat) (b l1 : List Int) (w : World) (h : RfAt5 w g (.ok b)) (hp : pOp b = .ok (208, l1)) (hk : kd 208 = (8, 0)) :
    Calls Try.prog 37 #[.pointer (some ⟨g, 0, none⟩)] w (RInPost g (.ok b) w) := by
  have HE := Lib.hid (in_eq hp hk)
  have HP := Lib.hid hp
  have HK := Lib.hid hk
  have HR0 : Hid (RfAt5 (w.alloc (.cells #[.int .i64 0, .int .u32 0, .int .u32 0, .int .u64 0, .slice none 0 0, .int .i64 0] 43)) g (.ok b) ∧ Own (w.alloc (.cells #[.int .i64 0, .int .u32 0, .int .u32 0, .int .u64 0, .slice none 0 0, .int .i64 0] 43)) w.heap.size 43 zC ∧ g < w.heap.size ∧ Chg (fun k => k = g) w (w.alloc (.cells #[.int .i64 0, .int .u32 0, .int .u32 0, .int .u64 0, .slice none 0 0, .int .i64 0] 43))) :=
    ⟨h.later ((Below.refl _ _).alloc (Nat.le_refl _) _), Own.new w _ _, h.lt, Chg.alloc _ _⟩
  clear h hp hk
  go_enter Try.func37, Try.ntmps37
  go_wp2_with fail
  refine (fop5_any g _ _ HR0.out.1).mono ?_
  rintro e w1 ⟨x, rfl, x0, x1, h2, h3, h4⟩
  have hx := h3 208 l1 (by rw [bd_ok]; exact HP.out)
  subst hx
  rw [nx_ok, HP.out] at h2
  simp only [bd_ok] at h2
  have HT : Hid (F3 w g w1.heap.size w.heap.size (.ok l1) (insC ⟨208, 0, 0, 0, [], 0⟩ none 0) (w1.alloc (.cells #[.int .i64 208, .int .u32 0, .int .u32 0, .int .u64 0, .slice none 0 0, .int .i64 0] 43))) := by
    have hb := (Below.refl w1.heap.size w1).alloc (Nat.le_refl _) (.cells #[.int .i64 208, .int .u32 0, .int .u32 0, .int .u64 0, .slice none 0 0, .int .i64 0] 43)
    have hg := HR0.out.2.2.1
    have hl := (HR0.out.2.1.chg h4 (by omega)).lt
    exact ⟨h2.later hb, Own.new w1 _ _, (HR0.out.2.1.chg h4 (by omega)).later hb, hg, hl, Nat.le_refl _, (HR0.out.2.2.2.trans h4 fun k _ e => e).trans (Chg.alloc (S := fun k => k = g) w1 _) fun k _ e => e⟩
  have hE0 := HT.out.1.own0
  clear h2 h3 h4 HR0 HP
  go_wp2_with (go_at_call 51; refine (refKind_any 208 _).mono ?_; unfold pr; rw [HK.out]; rintro e w' ⟨rfl, rfl⟩)
  refine (ffail05_any g l1 _ HT.out.1).mono ?_
  rintro e w2 ⟨⟨u, rfl⟩, h2, hc⟩
  have HT2 := Lib.hid (HT.out.step h2 hc)
  have hgi := HT.out.2.2.2.2.1
  clear h2 hc HT hE0
  have HT := Lib.hid HT2.out
  clear HT2
  obtain ⟨c0, c1, c2, c3, c4, c5, f0, f1, f2, f3, f4, f5⟩ := own_cells6 HT.out.2.1
  simp only [List.length_nil] at c4
  generalize w1.heap.size = gi at *
  generalize hgr : w.heap.size = gr at *
  have HGR := Lib.hid hgr
  clear hgr
  go_wp2_with fail
  refine (fvalue5_any g _ _ HT.out.1).mono ?_
  rintro e w3 ⟨y, rfl, y0, y1, h2, h3, h4⟩
  have HT2 := Lib.hid (HT.out.step h2 h4)
  have HVY := Lib.hid h3
  clear h2 h3 h4 HT c0 c1 c2 c3 c4 c5 f0 f1 f2 f3 f4 f5
  have HT := Lib.hid HT2.out
  clear HT2
  obtain ⟨c0, c1, c2, c3, c4, c5, f0, f1, f2, f3, f4, f5⟩ := own_cells6 HT.out.2.1
  simp only [List.length_nil] at c4
  have HT2 := Lib.hid (HT.out.set 1 (.int .u32 y))
  clear HT
  have HT := Lib.hid HT2.out
  clear HT2
  have hy8 : y % 256 = y := by omega
  have HR := Lib.hid (fun W => cref_any 71 (by simp) y W)
  by_cases hr : y = 112 ∨ y = 111
  · have hrd : decide (y = 112 ∨ y = 111) = true := by simpa using hr
    have HRR := Lib.hid hr
    clear hr
    obtain ⟨r0, r1, r2, r3, r4, r5, s0, s1, s2, s3, s4, s5⟩ := own_cells6 HT.out.2.2.1
    have hgg : ¬ gi = gr := by omega
    have hgg2 : ¬ gr = gi := by omega
    go_wp2_with (go_at_call 71; refine (HR.out _).mono ?_; rw [hrd]; rintro e w' ⟨rfl, rfl⟩)
    have hW0 := HT.out
    have hW := own_put6 hW0.2.2.1 (.int .i64 208) (.int .u32 y) (.int .u32 0) (.int .u64 0) (.slice none 0 0) (.int .i64 0)
    have hC := chg6 (w3.setCell ⟨gi, 1, none⟩ (.int .u32 y)) gr #[.int .i64 208, .int .u32 y, .int .u32 0, .int .u64 0, .slice none 0 0, .int .i64 0]
    have hRF := hW0.1.chg hC (fun k hk e => by have := hW0.2.2.2.1; omega)
    have hCH := hW0.2.2.2.2.2.2.trans hC fun k hk e => by have := hW0.2.2.2.2.2.1; omega
    have HZ := Lib.hid (And.intro hRF (And.intro hCH hC))
    clear hRF hCH
    show bodyPost _ _ _ _ _ (put6 (w3.setCell ⟨gi, 1, none⟩ (.int .u32 y)) gr #[.int .i64 208, .int .u32 y, .int .u32 0, .int .u64 0, .slice none 0 0, .int .i64 0])
    generalize put6 (w3.setCell ⟨gi, 1, none⟩ (.int .u32 y)) gr #[.int .i64 208, .int .u32 y, .int .u32 0, .int .u64 0, .slice none 0 0, .int .i64 0] = WE at *
    clear c0 c1 c2 c3 c4 c5 f0 f1 f2 f3 f4 f5 r0 r1 r2 r3 r4 r5 s0 s1 s2 s3 s4 s5
    obtain ⟨k0, k1, k2, k3, k4, k5, -, -, -, -, -, -⟩ := own_cells6 hW
    refine bodyPost_ret (by simp [results, Try.results37, go_sem, k0, k1, k2, k3, k4, k5]; try rfl) rfl ?_
    have hkey : nx (pBh 8 208) (.ok l1) = nx pVal (.ok l1) ∧ ∀ z l', bd (.ok l1) (pBh 8 208) = .ok (z, l') → ⟨208, y, 0, 0, [], 0⟩ = z := by
      rw [pBh8]; have kk := tyR HVY.out (by first | rw [if_pos HRR.out] | rw [if_neg HRR.out]); rw [← kk.1]; exact bh_one (f := fun a => (⟨208, a, 0, 0, [], 0⟩ : Ins)) kk.2
    exact ⟨⟨208, y, 0, 0, [], 0⟩, none, 0, rfl, by rw [HE.out.1, hkey.1]; exact HZ.out.1, LabX.nil _ _ rfl, okA y0 (by omega), fun a l' h => hkey.2 a l' (by rw [← HE.out.2]; exact h), HZ.out.2.1⟩
  · have hrd : decide (y = 112 ∨ y = 111) = false := by simpa using hr
    have HRR := Lib.hid hr
    clear hr
    go_wp2_with (go_at_call 71; refine (HR.out _).mono ?_; rw [hrd]; rintro e w' ⟨rfl, rfl⟩)
    refine (ffail5_any g _ 2 _ HT.out.1 (by omega) (by omega)).mono ?_
    rintro e w5 ⟨⟨u5, rfl⟩, h2, h4⟩
    have HT2 := Lib.hid (HT.out.step h2 h4)
    clear h2 h4 HT c0 c1 c2 c3 c4 c5 f0 f1 f2 f3 f4 f5
    have HT := Lib.hid HT2.out
    clear HT2
    obtain ⟨c0, c1, c2, c3, c4, c5, f0, f1, f2, f3, f4, f5⟩ := own_cells6 HT.out.2.1
    simp only [List.length_nil] at c4
    obtain ⟨r0, r1, r2, r3, r4, r5, s0, s1, s2, s3, s4, s5⟩ := own_cells6 HT.out.2.2.1
    have hgg : ¬ gi = gr := by omega
    have hgg2 : ¬ gr = gi := by omega
    go_wp2
    have hW0 := HT.out
    have hW := own_put6 hW0.2.2.1 (.int .i64 208) (.int .u32 y) (.int .u32 0) (.int .u64 0) (.slice none 0 0) (.int .i64 0)
    have hC := chg6 w5 gr #[.int .i64 208, .int .u32 y, .int .u32 0, .int .u64 0, .slice none 0 0, .int .i64 0]
    have hRF := hW0.1.chg hC (fun k hk e => by have := hW0.2.2.2.1; omega)
    have hCH := hW0.2.2.2.2.2.2.trans hC fun k hk e => by have := hW0.2.2.2.2.2.1; omega
    have HZ := Lib.hid (And.intro hRF (And.intro hCH hC))
    clear hRF hCH
    show bodyPost _ _ _ _ _ (put6 w5 gr #[.int .i64 208, .int .u32 y, .int .u32 0, .int .u64 0, .slice none 0 0, .int .i64 0])
    generalize put6 w5 gr #[.int .i64 208, .int .u32 y, .int .u32 0, .int .u64 0, .slice none 0 0, .int .i64 0] = WE at *
    clear c0 c1 c2 c3 c4 c5 f0 f1 f2 f3 f4 f5 r0 r1 r2 r3 r4 r5 s0 s1 s2 s3 s4 s5
    obtain ⟨k0, k1, k2, k3, k4, k5, -, -, -, -, -, -⟩ := own_cells6 hW
    refine bodyPost_ret (by simp [results, Try.results37, go_sem, k0, k1, k2, k3, k4, k5]; try rfl) rfl ?_
    have hkey : nx (pBh 8 208) (.ok l1) = failS 2 (nx pVal (.ok l1)) ∧ ∀ z l', bd (.ok l1) (pBh 8 208) = .ok (z, l') → ⟨208, y, 0, 0, [], 0⟩ = z := by
      rw [pBh8]; have kk := tyR HVY.out (by first | rw [if_pos HRR.out] | rw [if_neg HRR.out]); rw [← kk.1]; exact bh_one (f := fun a => (⟨208, a, 0, 0, [], 0⟩ : Ins)) kk.2
    exact ⟨⟨208, y, 0, 0, [], 0⟩, none, 0, rfl, by rw [HE.out.1, hkey.1]; exact HZ.out.1, LabX.nil _ _ rfl, okA y0 (by omega), fun a l' h => hkey.2 a l' (by rw [← HE.out.2]; exact h), HZ.out.2.1⟩
end Go.Proofs.Ytdbbcbffmbcjiaa
