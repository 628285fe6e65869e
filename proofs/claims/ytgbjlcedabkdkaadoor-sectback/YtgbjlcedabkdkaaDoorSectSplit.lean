/- sect.Split: which sections bytes are. -/
import Derived.Test.YtgbjlcedabkdkaaDoorSectSec
import Derived.Test.YtgbjlcedabkdkaaDoorSecL
namespace Go.Proofs.YtgbjlcedabkdkaaDoor
open Go.RowKit
set_option maxRecDepth 100000
set_option linter.unusedVariables false

def SpPost (e : TypeId) (b : List Int) (w : World) (en : Ending) (w' : World) : Prop :=
  ∃ v is, en = .returned (.tuple #[v, .int .i64 (spE (split b))]) ∧ OwnS e (fun k => w.heap.size ≤ k ∧ v.ownBlock ≠ some k) w' w.heap.size v is ∧ is.map SV.sec = spL (split b) ∧ Below w.heap.size w w' ∧ is.length ≤ 1000000
theorem goSecs_more {k k' : Nat} {acc : List Sec} {s : St} {x : Sec} (hk : k ≤ 12) (hl : 0 < lenS s) (h : ∀ r l', bd s (pSec k) = .ok (r, l') → r = (x, k')) : goSecs k acc s = goSecs k' (acc ++ [x]) (nx (pSec k) s) ∧ lenS (nx (pSec k) s) < lenS s := by
  cases s with
  | error e => simp [lenS] at hl
  | ok l =>
    refine ⟨goSecs_step hk acc (by rintro rfl; simp [lenS] at hl) fun r l' hr => h r l' (by rw [bd_ok]; exact hr), ?_⟩
    rw [nx_ok]
    cases hp : pSec k l with
    | error e => exact hl
    | ok r => exact (pSec_lt (q := r.1) (l' := r.2) hk (by rw [hp])).1
theorem RdrAt.err7 {w : World} {g : Nat} {t : TypeId} {tl : RTl} {s : St} (h : RdrAt w g t tl s) : ∀ e, s = .error e → 0 < e := fun e he => by subst he; exact h.2.1
theorem goSecs_end {k : Nat} {acc : List Sec} {s : St} (hl : lenS s = 0) (hp : ∀ e, s = .error e → 0 < e) : spE (goSecs k acc s) = endS s ∧ spL (goSecs k acc s) = if endS s = 0 then acc else [] := by
  cases s with
  | error e => exact ⟨rfl, by rw [if_neg (by have := hp e rfl; show ¬ e = 0; omega)]; rfl⟩
  | ok l =>
    obtain rfl : l = [] := List.eq_nil_of_length_eq_zero hl
    exact ⟨rfl, rfl⟩

set_option maxHeartbeats 4000000 in
theorem ssplit_any (A : Option Addr) (b : List Int) (n c : Nat) (w : World) (h : Rd w w.heap.size A b) (hn : n = b.length) (hl : n ≤ 1000000) (hc : n ≤ c) (hcm : c ≤ maxLen) (hT : Tabs w) :
    Calls Tryd.prog 9 #[.slice A n c] w (SpPost 33 b w) := by
  have HR := Lib.hid h
  have HN := Lib.hid hn
  have hT1 := hT.lt
  have HT := Lib.hid hT
  clear h hn hT
  go_enter Tryd.func9, Tryd.ntmps9
  go_wp2_with fail
  refine (snew_any A n c _).mono ?_
  rintro e w1 ⟨rfl, hb1⟩
  go_upto_region 2 with fail
  have HA : Hid (SrcAt (w1.alloc (.cells #[.slice A n c, .int .i64 0, .int .i64 0, .string { data := #[1, 2, 3, 4, 5, 6, 7, 8, 9, 12, 10, 11] }] 48)) w1.heap.size n 0 (.ok b) ∧ Below w.heap.size w (w1.alloc (.cells #[.slice A n c, .int .i64 0, .int .i64 0, .string { data := #[1, 2, 3, 4, 5, 6, 7, 8, 9, 12, 10, 11] }] 48))) := by
    have hs := hb1.size
    have hR1 := (HR.out.rx.later hb1).mono (Y := (· < w1.heap.size)) fun k _ hk => by have : k < w.heap.size := hk; omega
    have hA := (Below.refl w1.heap.size w1).alloc (Nat.le_refl _) (.cells #[.slice A n c, .int .i64 0, .int .i64 0, .string { data := #[1, 2, 3, 4, 5, 6, 7, 8, 9, 12, 10, 11] }] 48)
    refine ⟨⟨A, c, 0, ?_, hR1.later hA, by rw [← HN.out]; exact hc, hcm, by rw [← HN.out]; exact hl, by have := HN.out; simp only []; omega, by have := HN.out; simp only []; omega, by simp only []; omega⟩, hb1.trans (hA.mono (by omega))⟩
    rw [← HN.out]
    have := Own.new w1 48 [.slice A n c, .int .i64 0, .int .i64 0, .string (mayS 0)]
    rw [show mayS 0 = { data := #[1, 2, 3, 4, 5, 6, 7, 8, 9, 12, 10, 11] } from by decide +kernel] at this
    exact this
  have hwg := hb1.size
  clear hb1 hc hcm
  generalize w1.alloc (.cells #[.slice A n c, .int .i64 0, .int .i64 0, .string { data := #[1, 2, 3, 4, 5, 6, 7, 8, 9, 12, 10, 11] }] 48) = W1 at *
  generalize w1.heap.size = g at *
  have HF := Lib.hid (sfront_any g n 0 b W1 HA.out.1)
  go_wp2_with fail
  refine HF.out.mono ?_
  rintro e w2 ⟨⟨u, rfl⟩, p1, p2⟩
  have HS2 : Hid (SrcAt w2 g n 0 (pFront b) ∧ Below w.heap.size w w2) := ⟨p1, HA.out.2.trans (p2.below HA.out.2.size fun i hi e => by omega)⟩
  clear p1 p2
  have hfl : lenS (pFront b) ≤ n := by
    rw [HN.out]; unfold pFront
    split
    · simp [lenS]
    · split <;> simp [lenS]
  go_upto_region 4 with fail
  go_loopg [5] (n + 1) (fun gk v wx => ∃ (is : List SV) (s : St) (k : Nat), lenS s < gk ∧ k ≤ 12 ∧ Hid (SrcAt wx g n k s ∧ OwnS 33 (fun i => g < i ∧ v.ownBlock ≠ some i) wx (g + 1) v is ∧ split b = goSecs k (is.map SV.sec) s ∧ Below w.heap.size w wx ∧ is.length + lenS s ≤ n))
  case atStart => exact ⟨[], _, 0, by omega, by omega, HS2.out.1, OwnS.nil _ _ _ _, split_eq b, HS2.out.2, by simpa using hfl⟩
  case round =>
    obtain ⟨is, s, k, hgk, hk, HX⟩ := hrel
    have HL := Lib.hid (rleft_any g _ _ s wr HX.out.1)
    have hgw := RdrAt.lt HX.out.1
    obtain ⟨A1, k1, rfl, hk1, hk2, -⟩ := RdV.of_own HX.out.2.1.1
    clear hk1 hk2
    by_cases h0 : 0 < lenS s
    · obtain ⟨g', rfl⟩ : ∃ g', gk = g' + 1 := ⟨gk - 1, by omega⟩
      have h0z : (0 : Int) < (lenS s : Int) := by omega
      have HC := Lib.hid (ssec_any g n k s wr hk HX.out.1 (HT.out.later HX.out.2.2.2.1) (by omega))
      have hil : is.length + 1 ≤ 1000000000 := by have := HX.out.2.2.2.2; omega
      generalize hq : is.length = q at *
      have HQ := Lib.hid hq
      clear hq
      go_wp2_with (go_at_call 16; refine HL.out.mono ?_; rintro e w' ⟨rfl, rfl⟩)
      refine HC.out.mono ?_
      rintro e w3 ⟨id, y, v, k', rfl, i0, i1, i2, i3, i4, i5, i6, i7, i8⟩
      obtain ⟨A2, c2, rfl, q1, q2, q3⟩ := i3.rdX i4
      have HM := Lib.hid (goSecs_more (acc := is.map SV.sec) hk h0 i7)
      have H3 : Hid (OwnS 33 (fun i => g < i ∧ (Value.slice A1 q k1).ownBlock ≠ some i) w3 (g + 1) (.slice A1 q k1) is ∧ SecX (fun i => g < i ∧ (Value.slice A1 q k1).ownBlock ≠ some i) w3 ⟨id, y, A2, c2⟩) := by
        obtain ⟨x1, x2, x3, x4, x5⟩ := HX.out
        refine ⟨x2.chg i8 (fun i _ hi e => by have := hi.1; omega) (fun i hi e => by have := owns_ge x2.1 hi; omega), i0, i1, ?_, q1, q2, i5⟩
        exact q3.mono fun i _ hi => ⟨by have := owns_ge i3 hi; omega, fun e => by have := owns_ge i3 hi; have := owns_lt x2.1 e; omega⟩
      have H4 : Hid (SrcAt w3 g n k' (nx (pSec k) s) ∧ Below w.heap.size w w3 ∧ g < w3.heap.size) := ⟨i6, HX.out.2.2.2.1.trans (i8.below HX.out.2.2.2.1.size fun i hi e => by omega), RdrAt.lt i6⟩
      have hg3 := H4.out.2.2
      clear i0 i1 i3 i4 i5 i6 i7 i8 q1 q2 q3 HL HC
      go_wp2_with (at_builtin; refine wpList_appS1 under_secs sec_info rfl (.tmp 14) (.tmp 16) rfl (g + 1) (.slice A1 q k1) is rfl H3.out.1 ⟨id, y, A2, c2⟩ H3.out.2 rfl (by rw [HQ.out]; exact hil) (by omega) ?_; intro v1 w4 hv1 hw1; have HV := Lib.hid (And.intro hv1 hw1); clear hv1 hw1)
      go_roundg g'
      case measure => omega
      case rel =>
        obtain ⟨x1, x2, x3, x4, x5⟩ := HX.out
        have y1 := HV.out.1
        have y2 := HV.out.2
        refine ⟨is ++ [⟨id, y, A2, c2⟩], nx (pSec k) s, k', by have := HM.out.2; omega, i2, RdrAt.chg H4.out.1 y2.1 fun i hi e => by have := owns_ge H3.out.1.1 e; omega, y1.mono (fun i _ hi => ⟨hi.1.1, fun e => y1.2.2 i e hi⟩) (fun i hi e => e.2 hi), ?_, H4.out.2.1.trans (y2.1.below H4.out.2.1.size fun i hi e => by have := owns_ge H3.out.1.1 e; omega), ?_⟩
        · rw [x3, HM.out.1, List.map_append]; rfl
        · rw [List.length_append, HQ.out]; have := HM.out.2; simp only [List.length_cons, List.length_nil]; omega
    · have h0z : ¬ ((0 : Int) < (lenS s : Int)) := by omega
      have HE := Lib.hid (rend_any g _ _ s wr HX.out.1)
      have hend := goSecs_end (k := k) (acc := is.map SV.sec) (s := s) (by omega) (RdrAt.err7 HX.out.1)
      rw [← HX.out.2.2.1] at hend
      generalize hq : is.length = q at *
      have HQ := Lib.hid hq
      clear hq
      go_wp2_with (go_at_call 16; refine HL.out.mono ?_; rintro e w' ⟨rfl, rfl⟩)
      refine HE.out.mono ?_
      rintro e w5 ⟨rfl, hc5⟩
      have H5 : Hid (OwnS 33 (fun i => g < i ∧ (Value.slice A1 q k1).ownBlock ≠ some i) w5 (g + 1) (.slice A1 q k1) is ∧ Below w.heap.size w w5) := by
        obtain ⟨x1, x2, x3, x4, x5⟩ := HX.out
        exact ⟨x2.chg hc5 (fun i _ hi e => by have := hi.1; omega) (fun i hi e => by have := owns_ge x2.1 hi; omega), x4.trans (hc5.below x4.size fun i hi e => by omega)⟩
      have HN5 : Hid (q ≤ n) := by have := HX.out.2.2.2.2; unfold Hid; omega
      have HEND := Lib.hid hend
      clear hend hc5 HE HL
      by_cases he : endS s = 0
      · have hez : (endS s != 0) = false := by simp [he]
        have HZ := Lib.hid he
        clear he
        generalize endS s = es at *
        go_wp2
        go_ret2
        obtain ⟨y1, y2⟩ := HEND.out
        have hO := H5.out.1
        refine ⟨_, is, by rw [y1, HZ.out]; rfl, ⟨owns_base hO.1 (by omega), fun i hi => (hO.2.1 i hi).mono fun j _ hj => ⟨by have := hj.1; omega, hj.2⟩, fun j hj e => e.2 hj⟩, ?_, H5.out.2, ?_⟩
        · rw [y2, if_pos HZ.out]
        · rw [HQ.out]; have := HN5.out; omega
      · have hez : (endS s != 0) = true := by simpa using he
        have HZ := Lib.hid he
        clear he
        generalize endS s = es at *
        go_wp2
        go_ret2
        obtain ⟨y1, y2⟩ := HEND.out
        exact ⟨_, [], by rw [y1]; rfl, OwnS.nil _ _ _ _, by rw [y2, if_neg HZ.out]; rfl, H5.out.2, by simp⟩
end Go.Proofs.YtgbjlcedabkdkaaDoor
