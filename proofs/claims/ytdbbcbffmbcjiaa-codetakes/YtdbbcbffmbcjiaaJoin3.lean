/- Texts joined: LebPut, LebMath2, ParseMath, Cuts, LebRead2. -/
import Derived.Test.YtdbbcbffmbcjiaaJoin2
import Derived.Test.YtdbbcbffmbcjiaaJoin1
/- What leb's writers come to. -/
namespace Go.Proofs.Ytdbbcbffmbcjiaa
open Go.RowKit
set_option maxRecDepth 100000
set_option linter.unusedVariables false

theorem bytesU_is (n : Nat) (v : Int) (h0 : 0 ≤ v) (h : v < 128 ^ (n + 1)) : IsBytes (bytesOf (dgU n v)) := by
  induction n generalizing v with
  | zero => rw [bytesU_last 0 v (by simpa using h)]; exact IsBytes.one h0 (by simp at h; omega)
  | succ n ih =>
    by_cases hv : v < 128
    · rw [bytesU_last _ v hv]; exact IsBytes.one h0 (by omega)
    · rw [bytesU_more n v (by omega)]
      have := ih (v / 128) (by omega) (by rw [Int.pow_succ] at h; omega)
      intro z hz
      rcases List.mem_cons.1 hz with rfl | hz
      · omega
      · exact this z hz
theorem bytesS_is (n : Nat) (v : Int) : IsBytes (bytesOf (dgS n v)) := by
  induction n generalizing v with
  | zero => simp only [dgS, bytesOf]; exact IsBytes.one (by omega) (by omega)
  | succ n ih =>
    by_cases hv : -64 ≤ v ∧ v ≤ 63
    · rw [bytesS_last _ v hv]; exact IsBytes.one (by omega) (by omega)
    · rw [bytesS_more n v hv]
      intro z hz
      rcases List.mem_cons.1 hz with rfl | hz
      · omega
      · exact ih (v / 128) z hz

theorem andp127 (c : Int) : Go.bits .and .u8 (c % 256) 127 = c % 128 := by
  rw [u8_and _ 127 (by omega) (by omega) (by omega) (by omega), show (127 : Int).toNat = 127 from rfl, nat_mask7]
  omega

set_option maxHeartbeats 4000000 in
theorem putU_any (A : Option Addr) (l : List Int) (n c : Nat) (v0 : Int) (w : World) (h : Rd w w.heap.size A l) (hn : n = l.length) (hl : n ≤ 10000000) (h0 : 0 ≤ v0) (h1 : v0 < 18446744073709551616) :
    Calls Try.prog 85 #[.slice A n c, .int .u64 v0] w fun e w' => ∃ v, e = .returned v ∧ OwnB w' w.heap.size v (l ++ encU v0) ∧ Below w.heap.size w w' := by
  have HR := Lib.hid h
  have HN := Lib.hid hn
  clear h hn
  have H0 := Lib.hid (And.intro h0 h1)
  clear h0 h1
  go_enter Try.func85, Try.ntmps85
  go_wp2
  go_loopw [1, 5] (fun v u wr => ∃ (x : Int) (k : Nat) (gs : List Int), k ≤ 9 ∧ v = .int .u64 x ∧ Hid (0 ≤ x ∧ x < 128 ^ (9 - k + 1) ∧ 0 ≤ x ∧ x < 18446744073709551616 ∧ gs.length = k ∧ IsBytes gs ∧ encU v0 = gs ++ bytesOf (dgU (9 - k) x) ∧ OwnB wr w.heap.size u (gs) ∧ Below w.heap.size w wr)) (fun v _ _ => (intOf v).toNat)
  case atStart => have := H0.out; exact ⟨v0, 0, [], by omega, rfl, by omega, by simp; omega, by omega, by omega, rfl, IsBytes.nil, rfl, OwnB.nil _ _, Below.refl _ _⟩
  case round =>
    obtain ⟨x, k, gs, hk, rfl, HX⟩ := hrel
    obtain ⟨x1, x2, x8, x9, x3, x4, x5, x6, x7⟩ := HX.out
    have ho := or128 x
    by_cases hlt : 128 ≤ x
    · have hk9 : k < 9 := by
        rcases Nat.lt_or_ge k 9 with h | h
        · exact h
        · obtain rfl : k = 9 := by omega
          simp at x1 x2; omega
      have HY : Hid (0 ≤ x / 128 ∧ x / 128 < 128 ^ (9 - (k + 1) + 1) ∧ encU v0 = (gs ++ [x % 128 + 128]) ++ bytesOf (dgU (9 - (k + 1)) (x / 128))) := by
        refine ⟨by omega, ?_, ?_⟩
        · rw [show 9 - (k + 1) + 1 = 9 - k from by omega]
          rw [Int.pow_succ] at x2
          omega
        · rw [x5, show 9 - k = 9 - (k + 1) + 1 from by omega, bytesU_more _ x hlt]
          simp
      clear x1 x2 x3 x4 x5 x6 x7
      go_wp2_with (first | (at_builtin; refine wpList_app1 rfl (.tmp 8) (.tmp 12) rfl w.heap.size u5 (gs) rfl HX.out.2.2.2.2.2.2.2.1 _ rfl (by omega) (by omega) (by rw [HX.out.2.2.2.2.1]; omega) HX.out.2.2.2.2.2.2.2.2.size ?_; intro v1 w1 hv1 hw1; have HV := Lib.hid (And.intro hv1 hw1); clear hv1 hw1))
      all_goals exact ⟨⟨x / 128, k + 1, gs ++ [x % 128 + 128], by omega, rfl, HY.out.1, HY.out.2.1, by omega, by omega, by simp [HX.out.2.2.2.2.1], HX.out.2.2.2.2.2.1.app (IsBytes.one (by omega) (by omega)), HY.out.2.2, HV.out.1, HX.out.2.2.2.2.2.2.2.2.trans HV.out.2⟩, by simp [intOf]; omega⟩
    · have HY : Hid (encU v0 = gs ++ [x]) := by
        have := x5
        rw [bytesU_last _ x (by omega)] at this
        exact this
      have hm : x % 256 = x := by omega
      clear x1 x2 x3 x4 x5 x6 x7 ho
      go_wp2_with (first | (at_builtin; refine wpList_app1 rfl (.tmp 17) (.tmp 20) rfl w.heap.size u5 (gs) rfl HX.out.2.2.2.2.2.2.2.1 _ rfl (by omega) (by omega) (by rw [HX.out.2.2.2.2.1]; omega) HX.out.2.2.2.2.2.2.2.2.size ?_; intro v1 w1 hv1 hw1; obtain ⟨A2, c2, hv2, hr2, hl2⟩ := hv1.form (HX.out.2.2.2.2.2.1.app (IsBytes.one (by omega) (by omega))); subst hv2; have HV := Lib.hid (And.intro hr2 hw1); clear hv1 hw1 hr2 hl2))
      have hb2 : Below w.heap.size w w1 := HX.out.2.2.2.2.2.2.2.2.trans HV.out.2
      refine (put_any A A2 l (gs ++ [x]) n _ c c2 w1 (HR.out.later hb2) HV.out.1 HN.out (by simp) (by omega) (by simp [HX.out.2.2.2.2.1]; omega)).mono ?_
      rintro e w' ⟨v, rfl, ho, hb⟩
      have HO := Lib.hid (And.intro (ho.base hb2.size) (hb2.trans (hb.mono hb2.size)))
      clear ho hb hb2
      go_wp2
      go_ret
      exact ⟨_, rfl, by rw [HY.out]; exact HO.out.1, HO.out.2⟩

set_option maxHeartbeats 4000000 in
theorem putS_any (A : Option Addr) (l : List Int) (n c : Nat) (v0 : Int) (w : World) (h : Rd w w.heap.size A l) (hn : n = l.length) (hl : n ≤ 10000000) (h0 : -9223372036854775808 ≤ v0) (h1 : v0 < 9223372036854775808) :
    Calls Try.prog 84 #[.slice A n c, .int .i64 v0] w fun e w' => ∃ v, e = .returned v ∧ OwnB w' w.heap.size v (l ++ encS v0) ∧ Below w.heap.size w w' := by
  have HR := Lib.hid h
  have HN := Lib.hid hn
  clear h hn
  have H0 := Lib.hid (And.intro h0 h1)
  clear h0 h1
  go_enter Try.func84, Try.ntmps84
  go_wp2
  go_loopw [1, 5] (fun v u wr => ∃ (x : Int) (k : Nat) (gs : List Int), k ≤ 9 ∧ v = .int .i64 x ∧ Hid (-(64 * 128 ^ (9 - k)) ≤ x ∧ x < 64 * 128 ^ (9 - k) ∧ -9223372036854775808 ≤ x ∧ x < 9223372036854775808 ∧ gs.length = k ∧ IsBytes gs ∧ encS v0 = gs ++ bytesOf (dgS (9 - k) x) ∧ OwnB wr w.heap.size u (gs) ∧ Below w.heap.size w wr)) (fun v _ _ => (intOf v).natAbs)
  case atStart => have := H0.out; exact ⟨v0, 0, [], by omega, rfl, by simp; omega, by simp; omega, by omega, by omega, rfl, IsBytes.nil, rfl, OwnB.nil _ _, Below.refl _ _⟩
  case round =>
    obtain ⟨x, k, gs, hk, rfl, HX⟩ := hrel
    obtain ⟨x1, x2, x8, x9, x3, x4, x5, x6, x7⟩ := HX.out
    have ho := or128 x
    by_cases hlt : ¬ (-64 ≤ x ∧ x ≤ 63)
    · have hk9 : k < 9 := by
        rcases Nat.lt_or_ge k 9 with h | h
        · exact h
        · obtain rfl : k = 9 := by omega
          simp at x1 x2; omega
      have HY : Hid (-(64 * 128 ^ (9 - (k + 1))) ≤ x / 128 ∧ x / 128 < 64 * 128 ^ (9 - (k + 1)) ∧ encS v0 = (gs ++ [x % 128 + 128]) ++ bytesOf (dgS (9 - (k + 1)) (x / 128))) := by
        rw [show 9 - k = 9 - (k + 1) + 1 from by omega, Int.pow_succ] at x1 x2
        refine ⟨by omega, by omega, ?_⟩
        rw [x5, show 9 - k = 9 - (k + 1) + 1 from by omega, bytesS_more _ x hlt]
        simp
      have ht : (x / 64 == 0 || x / 64 == -1) = false := by simp; omega
      clear x1 x2 x3 x4 x5 x6 x7
      go_wp2_with (first | (go_at_call 108; refine (alike_any _ _).mono ?_; rintro e w' ⟨rfl, rfl⟩) | (at_builtin; refine wpList_app1 rfl (.tmp 10) (.tmp 14) rfl w.heap.size u5 (gs) rfl HX.out.2.2.2.2.2.2.2.1 _ rfl (by omega) (by omega) (by rw [HX.out.2.2.2.2.1]; omega) HX.out.2.2.2.2.2.2.2.2.size ?_; intro v1 w1 hv1 hw1; have HV := Lib.hid (And.intro hv1 hw1); clear hv1 hw1))
      all_goals exact ⟨⟨x / 128, k + 1, gs ++ [x % 128 + 128], by omega, rfl, HY.out.1, HY.out.2.1, by omega, by omega, by simp [HX.out.2.2.2.2.1], HX.out.2.2.2.2.2.1.app (IsBytes.one (by omega) (by omega)), HY.out.2.2, HV.out.1, HX.out.2.2.2.2.2.2.2.2.trans HV.out.2⟩, by simp [intOf]; omega⟩
    · have HY : Hid (encS v0 = gs ++ [x % 128]) := by
        have := x5
        rw [bytesS_last _ x (by omega)] at this
        exact this
      have ha := andn128 x
      have ht : (x / 64 == 0 || x / 64 == -1) = true := by simp; omega
      clear x1 x2 x3 x4 x5 x6 x7 ho
      go_wp2_with (first | (go_at_call 108; refine (alike_any _ _).mono ?_; rintro e w' ⟨rfl, rfl⟩) | (at_builtin; refine wpList_app1 rfl (.tmp 19) (.tmp 23) rfl w.heap.size u5 (gs) rfl HX.out.2.2.2.2.2.2.2.1 _ rfl (by omega) (by omega) (by rw [HX.out.2.2.2.2.1]; omega) HX.out.2.2.2.2.2.2.2.2.size ?_; intro v1 w1 hv1 hw1; obtain ⟨A2, c2, hv2, hr2, hl2⟩ := hv1.form (HX.out.2.2.2.2.2.1.app (IsBytes.one (by omega) (by omega))); subst hv2; have HV := Lib.hid (And.intro hr2 hw1); clear hv1 hw1 hr2 hl2))
      have hb2 : Below w.heap.size w w1 := HX.out.2.2.2.2.2.2.2.2.trans HV.out.2
      refine (put_any A A2 l (gs ++ [x % 128]) n _ c c2 w1 (HR.out.later hb2) HV.out.1 HN.out (by simp) (by omega) (by simp [HX.out.2.2.2.2.1]; omega)).mono ?_
      rintro e w' ⟨v, rfl, ho, hb⟩
      have HO := Lib.hid (And.intro (ho.base hb2.size) (hb2.trans (hb.mono hb2.size)))
      clear ho hb hb2
      go_wp2
      go_ret
      exact ⟨_, rfl, by rw [HY.out]; exact HO.out.1, HO.out.2⟩
end Go.Proofs.Ytdbbcbffmbcjiaa

/- Plain mathematics: what is written is read, whole or cut, in so many bits. No Go text. -/
namespace Go.Proofs.Ytdbbcbffmbcjiaa
open Go.RowKit
set_option maxRecDepth 100000
set_option linter.unusedVariables false

theorem Groups.tail {g : Int} {gs : List Int} (h : Groups (g :: gs)) : Groups gs := fun x hx => h x (by simp [hx])

theorem pow8 (k : Nat) (hk : k ≤ 8) : (2 : Int) ^ (k * 7) = 1 ∨ (2 : Int) ^ (k * 7) = 128 ∨ (2 : Int) ^ (k * 7) = 16384 ∨ (2 : Int) ^ (k * 7) = 2097152 ∨ (2 : Int) ^ (k * 7) = 268435456 ∨ (2 : Int) ^ (k * 7) = 34359738368 ∨ (2 : Int) ^ (k * 7) = 4398046511104 ∨ (2 : Int) ^ (k * 7) = 562949953421312 ∨ (2 : Int) ^ (k * 7) = 72057594037927936 := by
  match k, hk with
  | 0, _ => simp
  | 1, _ => simp
  | 2, _ => simp
  | 3, _ => simp
  | 4, _ => simp
  | 5, _ => simp
  | 6, _ => simp
  | 7, _ => simp
  | 8, _ => simp
  | n + 9, h => omega

/-- Reading the bytes of groups. -/
theorem dec_bytes (bits : Int) (fit : Int → Int → Bool) (hb : bits ≤ 64) (more : List Int) (gs : List Int) (hne : gs ≠ []) (hG : Groups gs) : ∀ (k : Nat) (x : Int), 7 * (k : Int) < bits → 0 ≤ x → x < 2 ^ (k * 7) →
    dec bits fit (bytesOf gs ++ more) k x =
      if 7 * ((k : Int) + gs.length) < bits ∨ (7 * ((k : Int) + gs.length - 1) < bits ∧ fit (gs.getLast hne) (bits - ((k : Int) + gs.length - 1) * 7) = true) then ((x + val gs * 2 ^ (k * 7)) % 18446744073709551616, (k : Int) + gs.length, 0) else (0, 0, 2) := by
  induction gs with
  | nil => exact absurd rfl hne
  | cons g gs ih =>
    intro k x hk h0 h1
    have hg := hG g (by simp)
    cases gs with
    | nil =>
      have e : g % 128 = g := by omega
      simp only [bytesOf, List.cons_append, List.nil_append, dec, val, e, List.length_cons, List.length_nil, List.getLast_singleton, Int.mul_zero, Int.add_zero]
      rw [if_pos (show g < 128 by omega), show ((0 + 1 : Nat) : Int) = 1 from rfl, show (k : Int) + 1 - 1 = k from by omega]
      by_cases h7 : bits - (k : Int) * 7 ≤ 7
      · by_cases hf : fit g (bits - (k : Int) * 7) = true
        · rw [if_neg (by rintro ⟨_, h | h⟩; · omega
                         · simp [hf] at h), if_pos (.inr ⟨hk, hf⟩)]
        · rw [if_pos ⟨h7, .inr (by simpa using hf)⟩, if_neg]
          rintro (h | ⟨_, h⟩)
          · omega
          · exact hf h
      · rw [if_neg (by rintro ⟨h, _⟩; omega), if_pos (.inl (by omega))]
    | cons h t =>
      have e : (g + 128) % 128 = g := by omega
      rw [bytesOf_cons _ _ (by simp), List.cons_append]
      simp only [dec, e]
      have hl : ((g :: h :: t).length : Int) = ((h :: t).length : Int) + 1 := by simp
      have hl1 : 1 ≤ ((h :: t).length : Int) := by simp; omega
      by_cases h7 : bits - (k : Int) * 7 ≤ 7
      · rw [if_pos ⟨h7, .inl (by omega)⟩, if_neg]
        rw [hl]
        rintro (h | ⟨h, _⟩) <;> omega
      · rw [if_neg (by rintro ⟨h, _⟩; omega), if_neg (by omega)]
        have hb' := acc_bd x g k h0 h1 (by omega) (by omega) (by omega)
        have eg : g % 128 = g := by omega
        rw [eg] at hb'
        have hlt : x + g * 2 ^ (k * 7) < 18446744073709551616 ∧ 0 ≤ x + g * 2 ^ (k * 7) := by
          rcases pow8 k (by omega) with hp | hp | hp | hp | hp | hp | hp | hp | hp <;> rw [hp] at h1 ⊢ <;> omega
        have em : (x + g * 2 ^ (k * 7)) % 18446744073709551616 = x + g * 2 ^ (k * 7) := by omega
        rw [em] at hb' ⊢
        rw [ih (by simp) hG.tail (k + 1) (x + g * 2 ^ (k * 7)) (by omega) hb'.1 hb'.2]
        have ev : x + g * 2 ^ (k * 7) + val (h :: t) * 2 ^ ((k + 1) * 7) = x + val (g :: h :: t) * 2 ^ (k * 7) := by
          rw [show (k + 1) * 7 = k * 7 + 7 from by omega, Int.pow_add, show val (g :: h :: t) = g + 128 * val (h :: t) from rfl]
          generalize val (h :: t) = y
          generalize (2 : Int) ^ (k * 7) = p
          rw [Int.add_mul, show y * (p * 2 ^ 7) = 128 * y * p from by rw [show (2 : Int) ^ 7 = 128 from rfl, Int.mul_comm p 128, ← Int.mul_assoc, Int.mul_comm y 128]]
          omega
        rw [ev, hl, show (g :: h :: t).getLast hne = (h :: t).getLast (by simp) from List.getLast_cons _]
        have e1 : ((k + 1 : Nat) : Int) + ((h :: t).length : Int) = (k : Int) + (((h :: t).length : Int) + 1) := by omega
        rw [e1]

/-- Cut off, a number is short. -/
theorem dec_short (bits : Int) (fit : Int → Int → Bool) (l : List Int) (h : ∀ z ∈ l, 128 ≤ z) : ∀ (k : Nat) (x : Int), 7 * ((k : Int) + l.length) < bits → dec bits fit l k x = (0, 0, 3) := by
  induction l with
  | nil => intro k x _; rfl
  | cons c l ih =>
    intro k x hk
    have hc := h c (by simp)
    simp only [List.length_cons] at hk
    simp only [dec]
    rw [if_neg (by rintro ⟨h, _⟩; omega), if_neg (by omega)]
    exact ih (fun z hz => h z (by simp [hz])) (k + 1) _ (by omega)

theorem bytesOf_big (gs : List Int) (hG : Groups gs) : ∀ j, j < gs.length - 1 → ∀ z ∈ (bytesOf gs)[j]?, 128 ≤ z := by
  induction gs with
  | nil => intro j hj; simp at hj
  | cons g gs ih =>
    cases gs with
    | nil => intro j hj; simp at hj
    | cons h t =>
      intro j hj z hz
      rw [bytesOf_cons _ _ (by simp)] at hz
      cases j with
      | zero => simp at hz; subst hz; have := hG g (by simp); omega
      | succ j => exact ih hG.tail j (by simp at hj ⊢; omega) z (by simpa using hz)

theorem dec_cut (bits : Int) (fit : Int → Int → Bool) (gs : List Int) (hG : Groups gs) (j : Nat) (hj : j < gs.length) (hb : 7 * (j : Int) < bits) : dec bits fit ((bytesOf gs).take j) 0 0 = (0, 0, 3) := by
  refine dec_short bits fit _ (fun z hz => ?_) 0 0 ?_
  · obtain ⟨i, hi, rfl⟩ := List.getElem_of_mem hz
    have hi' : i < j := by simp at hi; omega
    exact bytesOf_big gs hG i (by omega) _ (by rw [List.getElem_take, List.getElem?_eq_getElem (by simp at hi; omega)]; simp)
  · simp; omega

/-! ### Unsigned -/
theorem dgU_spec (n : Nat) : ∀ v : Int, 0 ≤ v → v < 128 ^ (n + 1) → Groups (dgU n v) ∧ val (dgU n v) = v ∧ v < 128 ^ (dgU n v).length ∧ ((dgU n v).length = 1 ∨ 128 ^ ((dgU n v).length - 1) ≤ v) ∧ (dgU n v).getLast (dgU_ne n v) = v / 128 ^ ((dgU n v).length - 1) := by
  induction n with
  | zero =>
    intro v h0 h1
    simp at h1
    refine ⟨fun g hg => ?_, by simp [dgU, val], by simpa [dgU] using h1, .inl rfl, by simp [dgU]⟩
    simp [dgU] at hg; omega
  | succ n ih =>
    intro v h0 h1
    by_cases hv : v < 128
    · have e : dgU (n + 1) v = [v] := by simp [dgU, hv]
      simp only [e]
      refine ⟨fun g hg => ?_, by simp [val], by simpa using hv, .inl rfl, by simp⟩
      simp at hg; omega
    · have e : dgU (n + 1) v = v % 128 :: dgU n (v / 128) := by simp [dgU, hv]
      obtain ⟨i1, i2, i3, i4, i5⟩ := ih (v / 128) (by omega) (by rw [Int.pow_succ] at h1; omega)
      have hpos : 0 < (dgU n (v / 128)).length := List.length_pos_iff.2 (dgU_ne _ _)
      have hlen : (v % 128 :: dgU n (v / 128)).length - 1 = (dgU n (v / 128)).length - 1 + 1 := by simp; omega
      simp only [e]
      refine ⟨fun g hg => ?_, by simp only [val, i2]; omega, ?_, .inr ?_, ?_⟩
      · rcases List.mem_cons.1 hg with rfl | hg
        · omega
        · exact i1 g hg
      · simp only [List.length_cons, Int.pow_succ]; omega
      · rw [hlen, Int.pow_succ]
        rcases i4 with i4 | i4
        · rw [i4]; simp; omega
        · omega
      · rw [List.getLast_cons (dgU_ne _ _), i5, hlen, Int.pow_succ, Int.mul_comm, ← Int.ediv_ediv_of_nonneg (by omega)]

theorem len_cases (m : Nat) (h1 : 1 ≤ m) (h2 : m ≤ 10) : m = 1 ∨ m = 2 ∨ m = 3 ∨ m = 4 ∨ m = 5 ∨ m = 6 ∨ m = 7 ∨ m = 8 ∨ m = 9 ∨ m = 10 := by omega

theorem rdU64_enc (v : Int) (more : List Int) (h0 : 0 ≤ v) (h1 : v < 18446744073709551616) : rdU 64 (encU v ++ more) = (v, ((encU v).length : Int), 0) := by
  obtain ⟨i1, i2, i3, i4, i5⟩ := dgU_spec 9 v h0 (by simp; omega)
  have hl := dgU_len 9 v
  have hp : 0 < (dgU 9 v).length := List.length_pos_iff.2 (dgU_ne _ _)
  unfold rdU encU
  rw [dec_bytes 64 fitU (by omega) more _ (dgU_ne 9 v) i1 0 0 (by omega) (by omega) (by simp), bytesOf_length, i5, i2]
  rw [if_pos]
  · simp; omega
  · generalize (dgU 9 v).length = m at *
    rcases len_cases m hp (by omega) with rfl | rfl | rfl | rfl | rfl | rfl | rfl | rfl | rfl | rfl
    all_goals first | (left; decide) | skip
    right
    refine ⟨by decide, ?_⟩
    simp [fitU] at *
    omega

theorem rdU32_enc (v : Int) (more : List Int) (h0 : 0 ≤ v) (h1 : v < 18446744073709551616) : rdU 32 (encU v ++ more) = if v < 4294967296 then (v, ((encU v).length : Int), 0) else (0, 0, 2) := by
  obtain ⟨i1, i2, i3, i4, i5⟩ := dgU_spec 9 v h0 (by simp; omega)
  have hl := dgU_len 9 v
  have hp : 0 < (dgU 9 v).length := List.length_pos_iff.2 (dgU_ne _ _)
  unfold rdU encU
  rw [dec_bytes 32 fitU (by omega) more _ (dgU_ne 9 v) i1 0 0 (by omega) (by omega) (by simp), bytesOf_length, i5, i2]
  have ev : (0 + v * 2 ^ (0 * 7)) % 18446744073709551616 = v := by simp; omega
  rw [ev]
  congr 1
  · generalize (dgU 9 v).length = m at *
    rcases len_cases m hp (by omega) with rfl | rfl | rfl | rfl | rfl | rfl | rfl | rfl | rfl | rfl <;> simp [fitU] at * <;> omega
  · simp
end Go.Proofs.Ytdbbcbffmbcjiaa

/- Reading on, as plain functions of bytes. No function of the program. -/
namespace Go.Proofs.Ytdbbcbffmbcjiaa
open Go.RowKit
set_option maxRecDepth 100000
set_option linter.unusedVariables false

/-- What is left to read, or the first error. -/
abbrev St := Except Int (List Int)
abbrev PR (α : Type) := List Int → Except Int (α × List Int)
def bd {α β : Type} (x : Except Int α) (f : α → Except Int β) : Except Int β := match x with
  | .error e => .error e
  | .ok a => f a
@[simp] theorem bd_ok {α β : Type} (a : α) (f : α → Except Int β) : bd (.ok a) f = f a := rfl
@[simp] theorem bd_error {α β : Type} (e : Int) (f : α → Except Int β) : bd (.error e : Except Int α) f = .error e := rfl
theorem bd_bd {α β γ : Type} (x : Except Int α) (f : α → Except Int β) (g : β → Except Int γ) : bd (bd x f) g = bd x fun a => bd (f a) g := by cases x <;> rfl
/-- The state behind. -/
def nx {α : Type} (p : PR α) (s : St) : St := bd (bd s p) fun r => .ok r.2
@[simp] theorem nx_error {α : Type} (p : PR α) (e : Int) : nx p (.error e) = .error e := rfl
theorem nx_ok {α : Type} (p : PR α) (l : List Int) : nx p (.ok l) = bd (p l) fun r => .ok r.2 := rfl
/-- One reads, then another one. -/
def seq {α β : Type} (p : PR α) (f : α → PR β) : PR β := fun l => bd (p l) fun r => f r.1 r.2

def failS (e : Int) (s : St) : St := match s with
  | .error e' => .error e'
  | .ok _ => .error e
def lenS (s : St) : Nat := match s with
  | .error _ => 0
  | .ok l => l.length
def endS (s : St) : Int := match s with
  | .error e => e
  | .ok [] => 0
  | .ok _ => 2

def pByte : PR Int
  | [] => .error 3
  | x :: t => .ok (x, t)
def pU (bits : Int) : PR Int := fun l => if (rdU bits l).2.2 = 0 then .ok ((rdU bits l).1 % 2 ^ bits.toNat, l.drop (rdU bits l).2.1.toNat) else .error (rdU bits l).2.2
def pBytes (n : Nat) : PR (List Int) := fun l => if n ≤ l.length then .ok (l.take n, l.drop n) else .error 3
def pCount (most : Int) : PR Int := seq (pU 32) fun v l => if most < v then .error 4 else .ok (v, l)
/-- n bytes more, the highest first. -/
def pW : Nat → Int → PR Int
  | 0, v => fun l => .ok (v, l)
  | n + 1, v => seq pByte fun b => pW n (v * 256 + b)
/-- n numbers more. -/
def pN : Nat → List Int → PR (List Int)
  | 0, acc => fun l => .ok (acc, l)
  | n + 1, acc => seq (pU 64) fun x => pN n (acc ++ [x])
def pName (most : Int) : PR (List Int) := seq (pCount most) fun n => pBytes n.toNat
def pList (most : Int) : PR (List Int) := seq (pCount most) fun n => pN n.toNat []
def pWord : PR Int := pW 8 0

theorem pU_ok {bits : Int} {l : List Int} {u m : Int} (h : rdU bits l = (u, m, 0)) : pU bits l = .ok (u % 2 ^ bits.toNat, l.drop m.toNat) := by simp [pU, h]
theorem pU_no {bits : Int} {l : List Int} {u m e : Int} (h : rdU bits l = (u, m, e)) (he : e ≠ 0) : pU bits l = .error e := by simp [pU, h, he]
theorem rdU_cases (bits : Int) (h0 : 1 ≤ bits) (hb : bits ≤ 64) (l : List Int) : rdU bits l = (0, 0, 3) ∨ rdU bits l = (0, 0, 2) ∨
    ∃ (u : Int) (m : Nat), rdU bits l = (u, (m : Int), 0) ∧ 0 ≤ u ∧ u < 18446744073709551616 ∧ 1 ≤ m ∧ m ≤ 10 ∧ m ≤ l.length := by
  rcases dec_cases bits fitU (by omega) l 0 0 (by omega) with h | h | ⟨u, m, h, h1, h2, h3, h4, h5⟩
  · exact .inl h
  · exact .inr (.inl h)
  · exact .inr (.inr ⟨u, m, h, h1, h2, h3, by omega, by omega⟩)

theorem pW_eq (n : Nat) : ∀ (v : Int) (l : List Int), pW n v l = if n ≤ l.length then .ok ((l.take n).foldl (fun a b => a * 256 + b) v, l.drop n) else .error 3 := by
  induction n with
  | zero => intro v l; simp [pW]
  | succ n ih =>
    intro v l
    cases l with
    | nil => simp [pW, seq, pByte]
    | cons x t => simp [pW, seq, pByte, ih]
theorem foldBE_bd (l : List Int) : ∀ (v : Int) (k : Nat), 0 ≤ v → v < 256 ^ k → (∀ z ∈ l, 0 ≤ z ∧ z ≤ 255) → 0 ≤ l.foldl (fun a b => a * 256 + b) v ∧ l.foldl (fun a b => a * 256 + b) v < 256 ^ (k + l.length) := by
  induction l with
  | nil => intro v k h0 h1 _; simpa using ⟨h0, h1⟩
  | cons x t ih =>
    intro v k h0 h1 hz
    have hx := hz x (by simp)
    have := ih (v * 256 + x) (k + 1) (by omega) (by rw [Int.pow_succ]; omega) (fun z h => hz z (by simp [h]))
    rw [show k + (x :: t).length = k + 1 + t.length from by simp; omega]
    simpa using this
/-- A number in eight bytes. -/
def be8 (x : Int) : List Int := [x / 72057594037927936 % 256, x / 281474976710656 % 256, x / 1099511627776 % 256, x / 4294967296 % 256, x / 16777216 % 256, x / 65536 % 256, x / 256 % 256, x % 256]
theorem be8_len (x : Int) : (be8 x).length = 8 := rfl
theorem be8_is (x : Int) : ∀ z ∈ be8 x, 0 ≤ z ∧ z ≤ 255 := by
  intro z hz; simp [be8] at hz; omega
theorem be8_get (x : Int) (k : Nat) (hk : k < 8) : (be8 x).getD k 0 = x / 2 ^ (8 * (7 - k)) % 256 := by
  rcases show k = 0 ∨ k = 1 ∨ k = 2 ∨ k = 3 ∨ k = 4 ∨ k = 5 ∨ k = 6 ∨ k = 7 from by omega with h | h | h | h | h | h | h | h <;> subst h <;> simp [be8]
theorem pWord_be8 (x : Int) (h0 : 0 ≤ x) (h1 : x < 18446744073709551616) (l : List Int) : pWord (be8 x ++ l) = .ok (x, l) := by
  unfold pWord
  rw [pW_eq, if_pos (by simp [be8])]
  simp only [be8, List.cons_append, List.nil_append, List.take_succ_cons, List.take_zero, List.drop_succ_cons, List.drop_zero, List.foldl]
  congr 2
  omega
end Go.Proofs.Ytdbbcbffmbcjiaa

/- Pieces of a slice: one equation for each, whatever the capacity. -/
namespace Go.Proofs.Ytdbbcbffmbcjiaa
open Go.RowKit
set_option maxRecDepth 100000
set_option linter.unusedVariables false

/-- Where a piece lies. -/
def PieceOf (A A' : Option Addr) (k : Nat) (sz : Nat) : Prop := ∀ (X : Nat → Prop) (w : World) (vs : List Value), RdV X w A vs → RdV X w A' (vs.drop (k * sz))
theorem add_add' (a : Addr) (i j : Nat) : (a.add i).add j = a.add (i + j) := by
  unfold Addr.add
  by_cases hi : i = 0 <;> by_cases hj : j = 0 <;> simp [hi, hj, Nat.add_assoc]
theorem piece_of (A : Option Addr) (k cap sz : Nat) : ∀ (X : Nat → Prop) (w : World) (vs : List Value), vs.length ≤ cap * sz → RdV X w A vs → RdV X w (if cap = k then A else A.map (·.add (k * sz))) (vs.drop (k * sz)) := by
  intro X w vs hlen h
  by_cases hc : cap = k
  · subst hc
    rw [List.drop_of_length_le hlen]
    exact RdV.nil _ _ _
  · rw [if_neg hc]
    intro j u hu
    rw [List.getElem?_drop] at hu
    obtain ⟨ad, rfl, hX, hcell⟩ := h _ u hu
    exact ⟨ad.add (k * sz), rfl, by rw [addBlock]; exact hX, by rw [add_add']; exact hcell⟩

theorem elem_of {t e : TypeId} (hu : Try.prog.underlying t = some (.slice e)) : Try.prog.elem t = e := by simp [Program.elem, hu]
section
variable {t e : TypeId} {sz : Nat} (hu : Try.prog.underlying t = some (.slice e)) (hinf : (Try.prog.info? e).map (·.size) = some sz)
include hu hinf
theorem run_sz (W : World) : (sizeOf (Try.prog.elem t)).run Try.prog W = .ok sz W := by
  rw [elem_of hu]
  obtain ⟨i, hi, hs⟩ := Option.map_eq_some_iff.1 hinf
  simp [sizeOf, typeInfo, hi, hs]
/-- s[l:h] -/
theorem cut_lh (A : Option Addr) (n cap : Nat) (li hi : Int) (l h : Nat) (m : Nat) (hl : li = l) (hh : hi = h) (hm : m = h - l) (h1 : l ≤ h) (h2 : h ≤ cap) :
    ∃ A' c', (∀ W, (Instr.sliceAt t (.slice A n cap) (some (.int .i64 li)) (some (.int .i64 hi)) none).run Try.prog W = .ok (.slice A' m c') W) ∧ c' = cap - l ∧
      ∀ (X : Nat → Prop) (w : World) (vs : List Value), vs.length ≤ cap * sz → RdV X w A vs → RdV X w A' ((vs.drop (l * sz)).take (m * sz)) := by
  subst hl; subst hh; subst hm
  have hu' : Try.prog.underlying t = some (.slice (Try.prog.elem t)) := by rw [elem_of hu]; exact hu
  refine ⟨if cap = l then A else A.map (·.add (l * sz)), cap - l, fun W => ?_, rfl, fun X w vs hv hr => (piece_of A l cap sz X w vs hv hr).take _⟩
  rw [run_sliceAt_slice W t _ _ _ _ hu', run_slice_lh W t A n cap hu' .i64 .i64 l h (by omega) (by omega) (by omega), run_sz hu hinf]
  simp [Result.andThen, sliced]
/-- s[l:] -/
theorem cut_l (A : Option Addr) (n cap : Nat) (li : Int) (l : Nat) (m : Nat) (hl : li = l) (hm : m = n - l) (h1 : l ≤ n) (h2 : n ≤ cap) :
    ∃ A' c', (∀ W, (Instr.sliceAt t (.slice A n cap) (some (.int .i64 li)) none none).run Try.prog W = .ok (.slice A' m c') W) ∧ c' = cap - l ∧
      ∀ (X : Nat → Prop) (w : World) (vs : List Value), vs.length ≤ cap * sz → RdV X w A vs → RdV X w A' (vs.drop (l * sz)) := by
  subst hl; subst hm
  have hu' : Try.prog.underlying t = some (.slice (Try.prog.elem t)) := by rw [elem_of hu]; exact hu
  refine ⟨if cap = l then A else A.map (·.add (l * sz)), cap - l, fun W => ?_, rfl, fun X w vs hv hr => piece_of A l cap sz X w vs hv hr⟩
  rw [run_sliceAt_slice W t _ _ _ _ hu', run_slice_l W t A n cap hu' .i64 l (by omega) (by omega), run_sz hu hinf]
  simp [Result.andThen, sliced]
/-- s[l:], by a number of whatever kind -/
theorem cut_lK (K : IntKind) (A : Option Addr) (n cap : Nat) (li : Int) (l : Nat) (m : Nat) (hl : li = l) (hm : m = n - l) (h1 : l ≤ n) (h2 : n ≤ cap) :
    ∃ A' c', (∀ W, (Instr.sliceAt t (.slice A n cap) (some (.int K li)) none none).run Try.prog W = .ok (.slice A' m c') W) ∧ c' = cap - l ∧
      ∀ (X : Nat → Prop) (w : World) (vs : List Value), vs.length ≤ cap * sz → RdV X w A vs → RdV X w A' (vs.drop (l * sz)) := by
  subst hl; subst hm
  have hu' : Try.prog.underlying t = some (.slice (Try.prog.elem t)) := by rw [elem_of hu]; exact hu
  refine ⟨if cap = l then A else A.map (·.add (l * sz)), cap - l, fun W => ?_, rfl, fun X w vs hv hr => piece_of A l cap sz X w vs hv hr⟩
  rw [run_sliceAt_slice W t _ _ _ _ hu', run_slice_l W t A n cap hu' K l (by omega) (by omega), run_sz hu hinf]
  simp [Result.andThen, sliced]
/-- s[:h] -/
theorem cut_h (A : Option Addr) (n cap : Nat) (hi : Int) (h : Nat) (hh : hi = h) (h2 : h ≤ cap) :
    ∃ A' c', (∀ W, (Instr.sliceAt t (.slice A n cap) none (some (.int .i64 hi)) none).run Try.prog W = .ok (.slice A' h c') W) ∧ c' = cap ∧
      ∀ (X : Nat → Prop) (w : World) (vs : List Value), vs.length ≤ cap * sz → RdV X w A vs → RdV X w A' (vs.take (h * sz)) := by
  subst hh
  have hu' : Try.prog.underlying t = some (.slice (Try.prog.elem t)) := by rw [elem_of hu]; exact hu
  refine ⟨if cap = 0 then A else A.map (·.add (0 * sz)), cap, fun W => ?_, rfl, fun X w vs hv hr => ?_⟩
  · rw [run_sliceAt_slice W t _ _ _ _ hu', run_slice_h W t A n cap hu' .i64 h (by omega) (by omega), run_sz hu hinf]
    simp [Result.andThen, sliced]
  · have := (piece_of A 0 cap sz X w vs hv hr).take (h * sz)
    simpa using this
end

/-- s[l:h] of bytes -/
theorem cutB_lh (A : Option Addr) (n cap : Nat) (li hi : Int) (l h : Nat) (m : Nat) (hl : li = l) (hh : hi = h) (hm : m = h - l) (h1 : l ≤ h) (h2 : h ≤ cap) :
    ∃ A' c', (∀ W, (Instr.sliceAt 22 (.slice A n cap) (some (.int .i64 li)) (some (.int .i64 hi)) none).run Try.prog W = .ok (.slice A' m c') W) ∧ c' = cap - l ∧
      ∀ (X : Nat → Prop) (w : World) (xs : List Int), xs.length ≤ cap → RdX X w A xs → RdX X w A' ((xs.drop l).take m) := by
  obtain ⟨A', c', h1, h2, h3⟩ := cut_lh under_bytes byte_size A n cap li hi l h m hl hh hm h1 h2
  refine ⟨A', c', h1, h2, fun X w xs hx hr => ⟨IsBytes.take (IsBytes.drop hr.1 _) _, ?_⟩⟩
  have := h3 X w _ (by simpa using hx) hr.2
  simpa [List.map_take, List.map_drop] using this
theorem cutB_l (A : Option Addr) (n cap : Nat) (li : Int) (l : Nat) (m : Nat) (hl : li = l) (hm : m = n - l) (h1 : l ≤ n) (h2 : n ≤ cap) :
    ∃ A' c', (∀ W, (Instr.sliceAt 22 (.slice A n cap) (some (.int .i64 li)) none none).run Try.prog W = .ok (.slice A' m c') W) ∧ c' = cap - l ∧
      ∀ (X : Nat → Prop) (w : World) (xs : List Int), xs.length ≤ cap → RdX X w A xs → RdX X w A' (xs.drop l) := by
  obtain ⟨A', c', h1, h2, h3⟩ := cut_l under_bytes byte_size A n cap li l m hl hm h1 h2
  refine ⟨A', c', h1, h2, fun X w xs hx hr => ⟨IsBytes.drop hr.1 _, ?_⟩⟩
  have := h3 X w _ (by simpa using hx) hr.2
  simpa [List.map_drop] using this
theorem cutB_lK (K : IntKind) (A : Option Addr) (n cap : Nat) (li : Int) (l : Nat) (m : Nat) (hl : li = l) (hm : m = n - l) (h1 : l ≤ n) (h2 : n ≤ cap) :
    ∃ A' c', (∀ W, (Instr.sliceAt 22 (.slice A n cap) (some (.int K li)) none none).run Try.prog W = .ok (.slice A' m c') W) ∧ c' = cap - l ∧
      ∀ (X : Nat → Prop) (w : World) (xs : List Int), xs.length ≤ cap → RdX X w A xs → RdX X w A' (xs.drop l) := by
  obtain ⟨A', c', h1, h2, h3⟩ := cut_lK under_bytes byte_size K A n cap li l m hl hm h1 h2
  refine ⟨A', c', h1, h2, fun X w xs hx hr => ⟨IsBytes.drop hr.1 _, ?_⟩⟩
  have := h3 X w _ (by simpa using hx) hr.2
  simpa [List.map_drop] using this
theorem cutB_h (A : Option Addr) (n cap : Nat) (hi : Int) (h : Nat) (hh : hi = h) (h2 : h ≤ cap) :
    ∃ A' c', (∀ W, (Instr.sliceAt 22 (.slice A n cap) none (some (.int .i64 hi)) none).run Try.prog W = .ok (.slice A' h c') W) ∧ c' = cap ∧
      ∀ (X : Nat → Prop) (w : World) (xs : List Int), xs.length ≤ cap → RdX X w A xs → RdX X w A' (xs.take h) := by
  obtain ⟨A', c', h1, h2, h3⟩ := cut_h under_bytes byte_size A n cap hi h hh h2
  refine ⟨A', c', h1, h2, fun X w xs hx hr => ⟨IsBytes.take hr.1 _, ?_⟩⟩
  have := h3 X w _ (by simpa using hx) hr.2
  simpa [List.map_take] using this
end Go.Proofs.Ytdbbcbffmbcjiaa

/- What leb's signed readers and their like come to. -/
namespace Go.Proofs.Ytdbbcbffmbcjiaa
open Go.RowKit
set_option maxRecDepth 100000
set_option linter.unusedVariables false

theorem takeSigned_any (A : Option Addr) (l : List Int) (n c : Nat) (bits : Int) (w : World) (h : Rd w w.heap.size A l) (hn : n = l.length) (hl : n ≤ maxLen) (hb : 1 ≤ bits) (hb2 : bits ≤ 64) :
    Calls Try.prog 112 #[.slice A n c, .int .i64 bits] w fun e w' => e = three .i64 .i64 .i64 (rdS bits l) ∧ w = w' := by
  have HT := Lib.hid (take_any 117 (.inr rfl) fitS A l n c bits w h hn hl hb hb2 (fun g r h1 h2 h3 h4 => signs_any g r w h1 h2 h3 h4))
  have HC := Lib.hid (dec_cases bits fitS hb2 l 0 0 (by omega))
  have HN := Lib.hid hn
  clear hn h
  unfold rdS
  generalize dec bits fitS l 0 0 = d at *
  go_enter Try.func112, Try.ntmps112
  go_wp2_with fail
  refine HT.out.mono ?_
  unfold three
  rintro e w' ⟨rfl, rfl⟩
  clear HT
  rcases HC.out with rfl | rfl | ⟨u, m, rfl, h1, h2, h3, h4, h5⟩
  · clear HC
    go_wp2
    go_ret3
    exact ⟨rfl, rfl⟩
  · clear HC
    go_wp2
    go_ret3
    exact ⟨rfl, rfl⟩
  · clear HC
    by_cases h : (m : Int) * 7 < 64
    · have HX := Lib.hid (sx_lt u m h)
      go_wp2
      go_ret3
      refine ⟨?_, rfl⟩
      have et : (64 - (m : Int) * 7).toNat = 64 - m * 7 := by omega
      simp [three, HX.out, et]
    · have HX := Lib.hid (sx_ge u m (by omega))
      go_wp2
      go_ret3
      refine ⟨?_, rfl⟩
      have eu : IntKind.u64.wrap u = u := by rw [IntKind.wrap_u64]; omega
      simp [three, HX.out, eu]

/-- The number alone turned. -/
def on1 (f : Int → Int) (r : Int × Int × Int) : Int × Int × Int := (f r.1, r.2.1, r.2.2)

theorem U32_any (A : Option Addr) (l : List Int) (n c : Nat) (w : World) (h : Rd w w.heap.size A l) (hn : n = l.length) (hl : n ≤ maxLen) :
    Calls Try.prog 91 #[.slice A n c] w fun e w' => e = three .u32 .i64 .i64 (on1 IntKind.u32.wrap (rdU 32 l)) ∧ w = w' := by
  have HT := Lib.hid (take_any 111 (.inl rfl) fitU A l n c 32 w h hn hl (by omega) (by omega) (fun g r h1 h2 h3 h4 => noughts_any g r w h1 h2 h3 h4))
  clear hn h
  unfold rdU
  generalize dec 32 fitU l 0 0 = d at *
  obtain ⟨d1, d2, d3⟩ := d
  unfold three on1 at *
  go_enter Try.func91, Try.ntmps91
  go_wp2_with fail
  refine HT.out.mono ?_
  rintro e w' ⟨rfl, rfl⟩
  go_wp2
  go_ret3
  exact ⟨rfl, rfl⟩

theorem S64_any (A : Option Addr) (l : List Int) (n c : Nat) (w : World) (h : Rd w w.heap.size A l) (hn : n = l.length) (hl : n ≤ maxLen) :
    Calls Try.prog 95 #[.slice A n c] w fun e w' => e = three .i64 .i64 .i64 (rdS 64 l) ∧ w = w' := by
  have HT := Lib.hid (takeSigned_any A l n c 64 w h hn hl (by omega) (by omega))
  clear hn h
  generalize rdS 64 l = d at *
  obtain ⟨d1, d2, d3⟩ := d
  unfold three at *
  go_enter Try.func95, Try.ntmps95
  go_wp2_with fail
  refine HT.out.mono ?_
  rintro e w' ⟨rfl, rfl⟩
  go_wp2
  go_ret3
  exact ⟨rfl, rfl⟩

theorem S33_any (A : Option Addr) (l : List Int) (n c : Nat) (w : World) (h : Rd w w.heap.size A l) (hn : n = l.length) (hl : n ≤ maxLen) :
    Calls Try.prog 113 #[.slice A n c] w fun e w' => e = three .i64 .i64 .i64 (rdS 33 l) ∧ w = w' := by
  have HT := Lib.hid (takeSigned_any A l n c 33 w h hn hl (by omega) (by omega))
  clear hn h
  generalize rdS 33 l = d at *
  obtain ⟨d1, d2, d3⟩ := d
  unfold three at *
  go_enter Try.func113, Try.ntmps113
  go_wp2_with fail
  refine HT.out.mono ?_
  rintro e w' ⟨rfl, rfl⟩
  go_wp2
  go_ret3
  exact ⟨rfl, rfl⟩

theorem S32_any (A : Option Addr) (l : List Int) (n c : Nat) (w : World) (h : Rd w w.heap.size A l) (hn : n = l.length) (hl : n ≤ maxLen) :
    Calls Try.prog 93 #[.slice A n c] w fun e w' => e = three .i32 .i64 .i64 (on1 wrap32 (rdS 32 l)) ∧ w = w' := by
  have HT := Lib.hid (takeSigned_any A l n c 32 w h hn hl (by omega) (by omega))
  clear hn h
  generalize rdS 32 l = d at *
  obtain ⟨d1, d2, d3⟩ := d
  unfold three on1 at *
  go_enter Try.func93, Try.ntmps93
  go_wp2_with fail
  refine HT.out.mono ?_
  rintro e w' ⟨rfl, rfl⟩
  go_wp2
  go_ret3
  exact ⟨rfl, rfl⟩
end Go.Proofs.Ytdbbcbffmbcjiaa
