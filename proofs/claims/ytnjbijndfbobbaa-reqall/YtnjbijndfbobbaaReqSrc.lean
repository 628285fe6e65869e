/- req's source: what its calls come to. -/
import Derived.Test.YtnjbijndfbobbaaReader
import Derived.Test.YtnjbijndfbobbaaNums
import Derived.StillTailTactics
import Derived.Deep.RegionWith
namespace Go.Proofs.Ytnjbijndfbobbaa
open Go.RowKit
set_option maxRecDepth 100000
set_option linter.unusedVariables false

theorem RdrAt.below {B : Nat} {w w' : World} {g : Nat} {t : TypeId} {tl : RTl} {s : St} (h : RdrAt w g t tl s) (hb : Below B w w') (hg : g < B) (hB : B ≤ w.heap.size) : RdrAt w' g t tl s :=
  h.chg (S := fun k => B ≤ k) ⟨hb.os, hb.tape, hb.output, hb.size, fun k _ hk => hb.block k (by omega)⟩ fun k hk => by omega

def pKind : PR Int := seq pByte fun x l => if x < 1 ∨ 6 < x then .error 2 else .ok (x, l)

theorem skind_any (g : Nat) (t : TypeId) (tl : RTl) (s : St) (w : World) (h : RdrAt w g t tl s) :
    Calls Try.prog 44 #[.pointer (some ⟨g, 0, none⟩)] w (RPost .i64 6 pKind g t tl s w) := by
  have HB := Lib.hid (rbyte_any g t tl s w h)
  clear h
  go_enter Try.func44, Try.ntmps44
  go_wp2_with fail
  refine HB.out.mono ?_
  rintro e w' ⟨x, rfl, h0, h1, h2, h3, h4⟩
  have H2 := Lib.hid (And.intro h2 (And.intro h3 h4))
  clear h2 h3 h4 HB
  by_cases hx : x < 1 ∨ 6 < x
  · have HF := Lib.hid (rfail_any g t tl _ 2 w' H2.out.1 (by omega) (by omega))
    have key : nx pKind s = failS 2 (nx pByte s) ∧ ∀ a l', bd s pKind ≠ .ok (a, l') := by
      cases s with
      | error e => exact ⟨rfl, fun a l' h => by cases h⟩
      | ok l =>
        have h3 := H2.out.2.1
        simp only [nx_ok, bd_ok, pKind, seq] at h3 ⊢
        cases hp : pByte l with
        | error e => simp [failS]
        | ok r =>
          have := h3 r.1 r.2 (by rw [hp])
          subst this
          rw [bd_ok, if_pos hx]
          exact ⟨rfl, fun a l' h => by cases h⟩
    have HK := Lib.hid key
    clear key
    have fin : ∀ w2, RdrAt w2 g t tl (failS 2 (nx pByte s)) → Chg (fun k => k = g) w' w2 → RPost .i64 6 pKind g t tl s w (.returned (.int .i64 0)) w2 := fun w2 ha hb =>
      ⟨0, rfl, by omega, by omega, by rw [HK.out.1]; exact ha, (fun a l' h => (HK.out.2 a l' h).elim), H2.out.2.2.trans hb fun k _ e => e⟩
    have FIN := Lib.hid fin
    clear fin
    rcases hx with hx | hx
    · go_wp2_with fail
      refine HF.out.mono ?_
      rintro e w2 ⟨⟨u, rfl⟩, h2, hc⟩
      have HC := Lib.hid (FIN.out w2 h2 hc)
      clear h2 hc
      go_wp2
      go_ret
      exact HC.out
    · have hx1 : ¬ x < 1 := by omega
      go_wp2_with fail
      refine HF.out.mono ?_
      rintro e w2 ⟨⟨u, rfl⟩, h2, hc⟩
      have HC := Lib.hid (FIN.out w2 h2 hc)
      clear h2 hc
      go_wp2
      go_ret
      exact HC.out
  · have key : nx pKind s = nx pByte s ∧ ∀ a l', bd s pKind = .ok (a, l') → x = a := by
      cases s with
      | error e => exact ⟨rfl, fun a l' h => by cases h⟩
      | ok l =>
        have h3 := H2.out.2.1
        simp only [nx_ok, bd_ok, pKind, seq] at h3 ⊢
        cases hp : pByte l with
        | error e => simp
        | ok r =>
          have := h3 r.1 r.2 (by rw [hp])
          subst this
          rw [bd_ok, if_neg hx]
          exact ⟨rfl, fun a l' h => by injection h with h; injection h⟩
    have hx1 : ¬ x < 1 := by omega
    have hx2 : ¬ 6 < x := by omega
    have HK := Lib.hid key
    clear key hx
    go_wp2
    go_ret
    exact ⟨x, rfl, by omega, by omega, by rw [HK.out.1]; exact H2.out.1, HK.out.2, H2.out.2.2⟩

theorem shl8_or (x y : Int) (h0 : 0 ≤ x) (hy0 : 0 ≤ y) (hy : y ≤ 255) : Go.bits .or .u64 (IntKind.u64.wrap (x * 256)) y = x * 256 % 18446744073709551616 + y := by
  obtain ⟨a, rfl⟩ : ∃ a : Nat, x = a := ⟨x.toNat, by omega⟩
  obtain ⟨b, rfl⟩ : ∃ b : Nat, y = b := ⟨y.toNat, by omega⟩
  rw [IntKind.wrap_u64, show ((a : Int) * 256) % 18446744073709551616 = ((a * 256 % 18446744073709551616 : Nat) : Int) from by omega, u64_or_nat _ _ (by omega) (by omega), nat_join 8 _ b (by omega) (by omega)]
  omega
theorem pow256 (k : Nat) (hk : k < 8) : (256 : Int) ^ (k + 1) = 256 ^ k * 256 ∧ (256 : Int) ^ k ≤ 72057594037927936 := by
  refine ⟨Int.pow_succ _ _, ?_⟩
  rcases show k = 0 ∨ k = 1 ∨ k = 2 ∨ k = 3 ∨ k = 4 ∨ k = 5 ∨ k = 6 ∨ k = 7 from by omega with h | h | h | h | h | h | h | h <;> subst h <;> decide
set_option maxHeartbeats 1000000 in
theorem sword_any (g : Nat) (t : TypeId) (tl : RTl) (s : St) (w : World) (h : RdrAt w g t tl s) :
    Calls Try.prog 45 #[.pointer (some ⟨g, 0, none⟩)] w (RPost .u64 18446744073709551615 pWord g t tl s w) := by
  have HH := Lib.hid h
  clear h
  go_enter Try.func45, Try.ntmps45
  go_wp2
  go_loopw [2, 3] (fun v i wr => ∃ (x : Int) (k : Nat) (sk : St), k ≤ 8 ∧ v = .int .u64 x ∧ i = .int .i64 k ∧ 0 ≤ x ∧ x ≤ 18446744073709551615 ∧ Hid (RdrAt wr g t tl sk ∧ bd s pWord = bd sk (pW (8 - k) x) ∧ (∀ l, sk = .ok l → x < 256 ^ k) ∧ Chg (fun k => k = g) w wr)) (fun _ i _ => 8 - (intOf i).toNat)
  case atStart => exact ⟨0, 0, s, by omega, rfl, rfl, by omega, by omega, HH.out, rfl, fun _ _ => by simp, Chg.refl _ _⟩
  case round =>
    obtain ⟨x, k, sk, hk, rfl, rfl, hx0, hx1, HX⟩ := hrel
    by_cases hlt : k < 8
    · have HB := Lib.hid (rbyte_any g t tl sk wr HX.out.1)
      go_wp2_with fail
      refine HB.out.mono ?_
      rintro e w' ⟨y, rfl, h0, h1, h2, h3, h4⟩
      have hz := shl8_or x y hx0 h0 h1
      have key : bd s pWord = bd (nx pByte sk) (pW (8 - (k + 1)) (x * 256 % 18446744073709551616 + y)) ∧ ∀ l, nx pByte sk = .ok l → x * 256 % 18446744073709551616 + y < 256 ^ (k + 1) := by
        obtain ⟨q1, q2, q3, q4⟩ := HX.out
        rw [q2, show 8 - k = 8 - (k + 1) + 1 from by omega]
        cases sk with
        | error e => exact ⟨rfl, fun l h => by cases h⟩
        | ok l =>
          have hx2 := q3 l rfl
          obtain ⟨p1, p2⟩ := pow256 k hlt
          simp only [bd_ok, nx_ok, pW, seq] at h3 ⊢
          cases hp : pByte l with
          | error e => exact ⟨rfl, fun l h => by cases h⟩
          | ok r =>
            have := h3 r.1 r.2 (by rw [hp])
            subst this
            rw [Int.emod_eq_of_lt (by omega) (by omega)]
            exact ⟨rfl, fun l h => by rw [p1]; omega⟩
      have HK := Lib.hid (And.intro key (And.intro h2 (HX.out.2.2.2.trans h4 fun k _ e => e)))
      clear h2 h3 h4 key HB HX
      go_wp2
      refine ⟨⟨_, k + 1, _, by omega, rfl, by go_num, by omega, by omega, HK.out.2.1, HK.out.1.1, HK.out.1.2, HK.out.2.2⟩, ?_⟩
      simp [intOf]; omega
    · obtain rfl : k = 8 := by omega
      go_wp2
      go_ret
      obtain ⟨q1, q2, q3, q4⟩ := HX.out
      have e8 : pW (8 - 8) x = fun l => .ok (x, l) := rfl
      rw [e8] at q2
      refine ⟨x, rfl, hx0, hx1, ?_, (fun a l' h => ?_), q4⟩
      · rw [nx, q2]; cases sk <;> exact q1
      · rw [q2] at h
        cases sk with
        | error e => cases h
        | ok l => injection h with h; injection h

/-- A text that was read. -/
def SPost (p : PR (List Int)) (g : Nat) (t : TypeId) (tl : RTl) (s : St) (w : World) (e : Ending) (w' : World) : Prop :=
  ∃ y, e = .returned (.string (strOfNums y)) ∧ IsBytes y ∧ RdrAt w' g t tl (nx p s) ∧ (∀ a l', bd s p = .ok (a, l') → y = a) ∧ Chg (fun k => k = g) w w' ∧ y.length ≤ 1000000
theorem nx_seq {α β : Type} (p : PR α) (f : α → PR β) (s : St) (a : α) (h : ∀ b l', bd s p = .ok (b, l') → a = b) : nx (seq p f) s = nx (f a) (nx p s) ∧ bd s (seq p f) = bd (nx p s) (f a) := by
  cases s with
  | error e => exact ⟨rfl, rfl⟩
  | ok l =>
    simp only [nx_ok, bd_ok, seq] at h ⊢
    cases hp : p l with
    | error e => exact ⟨rfl, rfl⟩
    | ok r =>
      have := h r.1 r.2 (by rw [hp])
      subst this
      exact ⟨rfl, rfl⟩
set_option maxHeartbeats 1000000 in
theorem sname_any (g : Nat) (t : TypeId) (tl : RTl) (s : St) (w : World) (h : RdrAt w g t tl s) :
    Calls Try.prog 49 #[.pointer (some ⟨g, 0, none⟩)] w (SPost (pName 32) g t tl s w) := by
  have HD : Hid (RdrAt w.drew g t tl s ∧ ∀ S w', Chg S w.drew w' → Chg S w w') := ⟨h.later ((Below.refl _ _).drew), fun S w' h => h.undrew⟩
  clear h
  go_enter Try.func49, Try.ntmps49
  go_wp2
  go_region_with (first
    | (go_at_call 84; refine (rcount_any g t tl s 32 w.drew HD.out.1 (by omega) (by omega)).mono ?_; rintro e w1 ⟨x, rfl, h0, h1, h2, h3, h4⟩; obtain ⟨n, rfl⟩ : ∃ n : Nat, x = n := ⟨x.toNat, by omega⟩; have H2 := Lib.hid (And.intro h2 (And.intro h3 h4)); clear h2 h3 h4)
    | (go_at_call 46; refine (rbytes_any g t tl _ n w1 H2.out.1 (by omega)).mono ?_; rintro e w2 ⟨v, y, rfl, ho, hI, h2, h3, h4, h5⟩; obtain ⟨A, c, rfl, -, -, hr⟩ := ho.rdX hI; have hstr := hr.rd.string c; have H3 := Lib.hid (And.intro h2 (And.intro h3 (And.intro h4 (And.intro hI h5)))); clear h2 h3 h4 ho hr hI h5; generalize hq : y.length = q at *; have HQ := Lib.hid hq; clear hq))
  go_wp2
  go_ret
  obtain ⟨k1, k2⟩ := nx_seq (pCount 32) (fun n => pBytes n.toNat) s (n : Int) H2.out.2.1
  rw [Int.toNat_natCast] at k1 k2
  refine ⟨y, rfl, H3.out.2.2.2.1, ?_, ?_, HD.out.2 _ _ (H2.out.2.2.trans H3.out.2.2.1 fun k _ e => e), ?_⟩
  · unfold pName; rw [k1]; exact H3.out.1
  · unfold pName; rw [k2]; exact H3.out.2.1
  · rw [HQ.out]; exact H3.out.2.2.2.2

/-- Numbers that were read, into new memory. -/
def LPost (p : PR (List Int)) (g : Nat) (t : TypeId) (tl : RTl) (s : St) (w : World) (e : Ending) (w' : World) : Prop :=
  ∃ v y, e = .returned v ∧ OwnU w' w.heap.size v y ∧ IsU64 y ∧ RdrAt w' g t tl (nx p s) ∧ (∀ a l', bd s p = .ok (a, l') → y = a) ∧ Chg (fun k => k = g) w w' ∧ y.length ≤ 1000
set_option maxHeartbeats 1000000 in
theorem slist_any (g : Nat) (t : TypeId) (tl : RTl) (s : St) (w : World) (h : RdrAt w g t tl s) :
    Calls Try.prog 50 #[.pointer (some ⟨g, 0, none⟩)] w (LPost (pList 8) g t tl s w) := by
  have HH := Lib.hid h
  have hgw := h.lt
  clear h
  go_enter Try.func50, Try.ntmps50
  go_wp2_with fail
  refine (rcount_any g t tl s 8 w HH.out (by omega) (by omega)).mono ?_
  rintro e w1 ⟨x, rfl, h0, h1, h2, h3, h4⟩
  obtain ⟨n, rfl⟩ : ∃ n : Nat, x = n := ⟨x.toNat, by omega⟩
  have hs1 := h4.size
  have H2 := Lib.hid (And.intro h2 (And.intro h3 h4))
  clear h2 h3 h4
  go_wp2
  go_loopw [2, 7] (fun v i wr => ∃ (y : List Int) (k : Nat) (sk : St), k ≤ n ∧ i = .int .i64 k ∧ y.length = k ∧ w.heap.size ≤ wr.heap.size ∧ Hid (RdrAt wr g t tl sk ∧ OwnU wr w.heap.size v y ∧ IsU64 y ∧ bd (nx (pCount 8) s) (pN n []) = bd sk (pN (n - k) y) ∧ Chg (fun k => k = g) w wr)) (fun _ i _ => n - (intOf i).toNat)
  case atStart => exact ⟨[], 0, _, by omega, rfl, rfl, hs1, H2.out.1, OwnU.nil _ _, IsU64.nil, by simp, H2.out.2.2⟩
  case round =>
    obtain ⟨y, k, sk, hk, rfl, hyk, hsz, HX⟩ := hrel
    have HYK := Lib.hid hyk
    clear hyk
    by_cases hlt : k < n
    · have hlt2 : (k : Int) < n := by omega
      go_wp2_with fail
      refine (rU64_any g t tl sk wr HX.out.1).mono ?_
      rintro e w2 ⟨z, rfl, z0, z1, h2, h3, h4⟩
      have hs2 := h4.size
      have H3 : Hid (RdrAt w2 g t tl (nx (pU 64) sk) ∧ OwnU w2 w.heap.size u2 y ∧ IsU64 (y ++ [z]) ∧ bd (nx (pCount 8) s) (pN n []) = bd (nx (pU 64) sk) (pN (n - (k + 1)) (y ++ [z])) ∧ Chg (fun k => k = g) w w2) := by
        obtain ⟨q1, q2, q3, q4, q5⟩ := HX.out
        refine ⟨h2, q2.chg h4 fun i hi e => ?_, q3.app (IsU64.one z0 (by omega)), ?_, q5.trans h4 fun k _ e => e⟩
        · have := owns_ge q2 hi; omega
        · rw [q4, show n - k = n - (k + 1) + 1 from by omega]
          exact (nx_seq (pU 64) (fun x => pN (n - (k + 1)) (y ++ [x])) sk z h3).2
      clear h2 h3 h4
      go_wp2_with (at_builtin; refine wpList_appU1 rfl (.tmp 9) (.tmp 14) rfl w.heap.size u2 y rfl H3.out.2.1 z rfl z0 (by omega) (by have := HYK.out; omega) (by omega) ?_; intro v1 w3 hv1 hw1; have HV := Lib.hid (And.intro hv1 hw1); clear hv1 hw1)
      go_wp2
      have hs3 := HV.out.2.size
      refine ⟨⟨y ++ [z], k + 1, _, by omega, by go_num, by have := HYK.out; simp; omega, by omega, H3.out.1.below HV.out.2 hgw (by omega), HV.out.1, H3.out.2.2.1, H3.out.2.2.2.1, ?_⟩, ?_⟩
      · exact H3.out.2.2.2.2.trans ⟨HV.out.2.os, HV.out.2.tape, HV.out.2.output, HV.out.2.size, fun i hi hn => HV.out.2.block i (by exact Nat.lt_of_not_le hn)⟩ fun i hi e => by omega
      · simp [intOf]; omega
    · obtain rfl : k = n := by omega
      go_wp2
      go_ret
      obtain ⟨q1, q2, q3, q4, q5⟩ := HX.out
      have e0 : pN (k - k) y = fun l => .ok (y, l) := by rw [Nat.sub_self]; rfl
      rw [e0] at q4
      obtain ⟨k1, k2⟩ := nx_seq (pCount 8) (fun n => pN n.toNat []) s (k : Int) H2.out.2.1
      rw [Int.toNat_natCast] at k1 k2
      refine ⟨_, y, rfl, q2, q3, ?_, (fun a l' h => ?_), q5, by have := HYK.out; omega⟩
      · unfold pList; rw [k1, nx, q4]; cases sk <;> exact q1
      · unfold pList at h
        rw [k2, q4] at h
        cases sk with
        | error e => cases h
        | ok l => injection h with h; injection h
end Go.Proofs.Ytnjbijndfbobbaa
