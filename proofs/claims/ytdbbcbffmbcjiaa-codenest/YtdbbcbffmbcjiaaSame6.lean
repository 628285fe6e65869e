/- Two instructions, two bodies: are they the same? -/
import Derived.Test.YtdbbcbffmbcjiaaInsL
import Derived.Test.YtdbbcbffmbcjiaaCodeIn
import Derived.Deep.QuietTactic
import Derived.BigQuiet
import Derived.Deep.Cut
namespace Go.Proofs.Ytdbbcbffmbcjiaa
open Go.RowKit
set_option maxRecDepth 100000
set_option linter.unusedVariables false

theorem getD_ne6 {a b : List Int} {k : Nat} (hk : k < a.length) (h : a.getD k 0 ≠ b.getD k 0) : a ≠ b := fun e => h (by rw [e])
theorem take_eq_step6 {a b : List Int} {k : Nat} (hl : a.length = b.length) (hk : k < a.length) (h : a.take k = b.take k) (he : a.getD k 0 = b.getD k 0) : a.take (k + 1) = b.take (k + 1) := by
  rw [List.take_add_one, List.take_add_one, h]
  rw [List.getD_eq_getElem?_getD, List.getD_eq_getElem?_getD, List.getElem?_eq_getElem hk, List.getElem?_eq_getElem (by omega)] at he
  simp only [Option.getD_some] at he
  rw [List.getElem?_eq_getElem hk, List.getElem?_eq_getElem (show k < b.length by omega), he]

set_option maxHeartbeats 1000000 in
theorem eqQ_any {X Y : Nat → Prop} (A B : Option Addr) (a b : List Int) (n m c d : Nat) (w : World) (ha : RdQ X w A a) (hb : RdQ Y w B b) (hn : n = a.length) (hm : m = b.length) (hnl : n ≤ maxLen) (hml : m ≤ maxLen) :
    Calls Try.prog 54 #[.slice A n c, .slice B m d] w fun e w' => e = .returned (.bool (decide (a = b))) ∧ ∃ j, w' = w.drewN j := by
  have HA := Lib.hid (And.intro ha hn)
  have HB := Lib.hid (And.intro hb hm)
  clear ha hb hn hm
  unfold maxLen at hnl hml
  by_cases hl : n = m
  · subst hl
    go_enter Try.func54, Try.ntmps54
    go_wp2
    go_loopw [13] (fun i wr => ∃ (k j : Nat), k ≤ n ∧ i = .int .i64 k ∧ Hid (a.take k = b.take k) ∧ wr = w.drewN j) (fun i _ => n - (intOf i).toNat)
    case atStart => exact ⟨0, 0, by omega, rfl, rfl, rfl⟩
    case round =>
      obtain ⟨k, j, hk, rfl, HX, rfl⟩ := hrel
      by_cases hlt : k < n
      · have hlt2 : (k : Int) < n := by omega
        have hka : k < a.length := by rw [← HA.out.2]; exact hlt
        have hkb : k < b.length := by rw [← HB.out.2]; exact hlt
        obtain ⟨ba, oa, rfl, hca, x0, x1⟩ := HA.out.1.at_ hka
        obtain ⟨bb, ob, rfl, hcb, y0, y1⟩ := HB.out.1.at_ hkb
        have HS := Lib.hid (fun he => take_eq_step6 (by rw [← HA.out.2, ← HB.out.2]) hka HX.out he)
        have HN := Lib.hid (fun (h : a.getD k 0 ≠ b.getD k 0) => getD_ne6 hka h)
        generalize a.getD k 0 = x at *
        generalize b.getD k 0 = y at *
        clear hka hkb
        by_cases hxy : x = y
        · subst hxy
          have HS2 := Lib.hid (HS.out rfl)
          have hne : (x != x) = false := by simp
          clear HS HN
          go_wp2
          go_quiet (fail)
          go_wp2
          refine ⟨⟨k + 1, j + nq, by omega, by go_num, HS2, rfl⟩, ?_⟩
          simp [intOf]; omega
        · have hne : (x != y) = true := by simpa using hxy
          have HN2 := Lib.hid (HN.out hxy)
          clear HS HN hxy
          go_wp2
          go_quiet (fail)
          go_wp2
          go_ret
          exact ⟨by simp [HN2.out], j + nq, by simp⟩
      · obtain rfl : k = n := by omega
        go_wp2
        go_ret
        refine ⟨?_, j, rfl⟩
        have := HX.out
        rw [List.take_of_length_le (by rw [← HA.out.2]; omega), List.take_of_length_le (by rw [← HB.out.2]; omega)] at this
        simp [this]
  · have hne : ((n : Int) != m) = true := by simp; omega
    have HNE : Hid (a ≠ b) := fun e => by have := HA.out.2; have := HB.out.2; rw [e] at *; omega
    clear hl
    go_enter Try.func54, Try.ntmps54
    go_wp2
    go_ret
    exact ⟨by simp [HNE.out], 0, rfl⟩


theorem ins_diff (x y : Ins) : x.op ≠ y.op ∨ (x.op = y.op ∧ x.a ≠ y.a) ∨ (x.op = y.op ∧ x.a = y.a ∧ x.b ≠ y.b) ∨ (x.op = y.op ∧ x.a = y.a ∧ x.b = y.b ∧ x.n ≠ y.n) ∨ (x.op = y.op ∧ x.a = y.a ∧ x.b = y.b ∧ x.n = y.n) := by
  by_cases h1 : x.op = y.op
  · by_cases h2 : x.a = y.a
    · by_cases h3 : x.b = y.b
      · by_cases h4 : x.n = y.n
        · exact .inr (.inr (.inr (.inr ⟨h1, h2, h3, h4⟩)))
        · exact .inr (.inr (.inr (.inl ⟨h1, h2, h3, h4⟩)))
      · exact .inr (.inr (.inl ⟨h1, h2, h3⟩))
    · exact .inr (.inl ⟨h1, h2⟩)
  · exact .inl h1
theorem LabX.rdQ {X : Nat → Prop} {w : World} {x : Ins} {A : Option Addr} {c : Nat} (h : LabX X w x A c) (hl : IsU32 x.l) : RdQ X w A x.l := ⟨hl, h.1⟩
theorem below_two (w : World) (o1 o2 : Obj) : Below w.heap.size w ((w.alloc o1).alloc o2) := (((Below.refl w.heap.size w).alloc (Nat.le_refl _) o1)).alloc (by simp) o2
theorem below_dn {w w' : World} {B : Nat} (h : Below B w w') (j : Nat) : Below B w (w'.drewN j) := below_drewN' h j
set_option maxHeartbeats 4000000 in
theorem sameIns_any {X Y : Nat → Prop} (x y : Ins) (A B : Option Addr) (c d : Nat) (w : World) (hx : LabX X w x A c) (hy : LabX Y w y B d) (ox : InsOk x) (oy : InsOk y) :
    Calls Try.prog 32 #[insV x A c, insV y B d] w fun e w' => e = .returned (.bool (decide (x = y))) ∧ Below w.heap.size w w' := by
  obtain ⟨xo, xa, xb, xn, xl, xt⟩ := x
  obtain ⟨yo, ya, yb, yn, yl, yt⟩ := y
  have HQ := Lib.hid (fun W (hb : Below w.heap.size w W) => eqQ_any A B xl yl xl.length yl.length c d W ((hx.rdQ ox.l).later hb) ((hy.rdQ oy.l).later hb) rfl rfl (Nat.le_trans hx.2.1 hx.2.2) (Nat.le_trans hy.2.1 hy.2.2))
  have HB := Lib.hid (below_two w (.cells #[.int .i64 xo, .int .u32 xa, .int .u32 xb, .int .u64 xn, .slice A xl.length c, .int .i64 xt] 43) (.cells #[.int .i64 yo, .int .u32 ya, .int .u32 yb, .int .u64 yn, .slice B yl.length d, .int .i64 yt] 43))
  clear hx hy ox oy
  have hd := ins_diff ⟨xo, xa, xb, xn, xl, xt⟩ ⟨yo, ya, yb, yn, yl, yt⟩
  simp only [] at hd
  unfold insV
  simp only []
  have HEQ : Hid (∀ P : Prop, ¬ P → ((⟨xo, xa, xb, xn, xl, xt⟩ : Ins) = ⟨yo, ya, yb, yn, yl, yt⟩ → P) → decide ((⟨xo, xa, xb, xn, xl, xt⟩ : Ins) = ⟨yo, ya, yb, yn, yl, yt⟩) = false) := fun P hn h => by simp only [decide_eq_false_iff_not]; exact fun e => hn (h e)
  generalize hlx : xl.length = lx at *
  generalize hly : yl.length = ly at *
  rcases hd with h1 | ⟨h1, h2⟩ | ⟨h1, h2, h3⟩ | ⟨h1, h2, h3, h4⟩ | ⟨h1, h2, h3, h4⟩
  · have e1 : (xo == yo) = false := by simpa using h1
    have HD := Lib.hid (HEQ.out _ h1 (fun e => congrArg Ins.op e))
    clear h1 hlx hly HQ
    go_enter Try.func32, Try.ntmps32
    go_wp2
    go_ret
    exact ⟨by rw [HD.out]; rfl, HB.out⟩
  · have e2 : (xa == ya) = false := by simpa using h2
    have HD := Lib.hid (HEQ.out _ h2 (fun e => congrArg Ins.a e))
    subst h1
    clear h2 hlx hly HQ
    go_enter Try.func32, Try.ntmps32
    go_wp2
    go_ret
    exact ⟨by rw [HD.out]; rfl, HB.out⟩
  · have e2 : (xb == yb) = false := by simpa using h3
    have HD := Lib.hid (HEQ.out _ h3 (fun e => congrArg Ins.b e))
    subst h1 h2
    clear h3 hlx hly HQ
    go_enter Try.func32, Try.ntmps32
    go_wp2
    go_ret
    exact ⟨by rw [HD.out]; rfl, HB.out⟩
  · have e2 : (xn == yn) = false := by simpa using h4
    have HD := Lib.hid (HEQ.out _ h4 (fun e => congrArg Ins.n e))
    subst h1 h2 h3
    clear h4 hlx hly HQ
    go_enter Try.func32, Try.ntmps32
    go_wp2
    go_ret
    exact ⟨by rw [HD.out]; rfl, HB.out⟩
  · subst h1 h2 h3 h4
    by_cases hl : xl = yl
    · subst hl
      have HQ2 := Lib.hid (HQ.out _ HB.out)
      have hdl : decide (xl = xl) = true := by simp
      by_cases ht : xt = yt
      · subst ht
        clear hlx hly HQ
        go_enter Try.func32, Try.ntmps32
        go_wp2_with (go_at_call 54; refine HQ2.out.mono ?_; rw [hdl]; rintro e w' ⟨rfl, j, rfl⟩)
        go_ret
        exact ⟨by simp, below_dn HB.out j⟩
      · have e2 : (xt == yt) = false := by simpa using ht
        have HD := Lib.hid (HEQ.out _ ht (fun e => congrArg Ins.t e))
        clear hlx hly HQ ht
        go_enter Try.func32, Try.ntmps32
        go_wp2_with (go_at_call 54; refine HQ2.out.mono ?_; rw [hdl]; rintro e w' ⟨rfl, j, rfl⟩)
        go_ret
        exact ⟨by rw [HD.out]; rfl, below_dn HB.out j⟩
    · have HQ2 := Lib.hid (HQ.out _ HB.out)
      have hdl : decide (xl = yl) = false := by simpa using hl
      have HD := Lib.hid (HEQ.out _ hl (fun e => congrArg Ins.l e))
      clear hlx hly HQ hl
      go_enter Try.func32, Try.ntmps32
      go_wp2_with (go_at_call 54; refine HQ2.out.mono ?_; rw [hdl]; rintro e w' ⟨rfl, j, rfl⟩)
      go_ret
      exact ⟨by rw [HD.out]; rfl, below_dn HB.out j⟩
end Go.Proofs.Ytdbbcbffmbcjiaa
