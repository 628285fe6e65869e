/- Texts joined: LebPut, ReqTake, Puts, TypesTake, ConcatL, TypesPut, TypesLimPut, ReaderS. -/
import Derived.Test.YtdngkbagfaeplaaJoin3
import Derived.Test.YtdngkbagfaeplaaJoin4
import Derived.Deep.RegionHeld3
import Derived.Deep.Cut
/- What leb's writers come to. -/
namespace Go.Proofs.Ytdngkbagfaeplaa
open Go.RowKit
set_option maxRecDepth 100000
set_option linter.unusedVariables false

theorem bytesU_is (n : Nat) (v : Int) (h0 : 0 ≤ v) (h : v < 128 ^ (n + 1)) : IsBytes (bytesOf (dgU n v)) := by
  induction n generalizing v with
  | zero => rw [bytesU_last 0 v (by simpa using h)]; exact IsBytes.one h0 (by simp at h; omega)
  | succ n ih =>
    by_cases hv : v < 128
    · rw [bytesU_last _ v hv]; exact IsBytes.one h0 (by omega)
    · rw [bytesU_more n v (by omega)]
      have := ih (v / 128) (by omega) (by rw [Int.pow_succ] at h; omega)
      intro z hz
      rcases List.mem_cons.1 hz with rfl | hz
      · omega
      · exact this z hz
theorem bytesS_is (n : Nat) (v : Int) : IsBytes (bytesOf (dgS n v)) := by
  induction n generalizing v with
  | zero => simp only [dgS, bytesOf]; exact IsBytes.one (by omega) (by omega)
  | succ n ih =>
    by_cases hv : -64 ≤ v ∧ v ≤ 63
    · rw [bytesS_last _ v hv]; exact IsBytes.one (by omega) (by omega)
    · rw [bytesS_more n v hv]
      intro z hz
      rcases List.mem_cons.1 hz with rfl | hz
      · omega
      · exact ih (v / 128) z hz

theorem andp127 (c : Int) : Go.bits .and .u8 (c % 256) 127 = c % 128 := by
  rw [u8_and _ 127 (by omega) (by omega) (by omega) (by omega), show (127 : Int).toNat = 127 from rfl, nat_mask7]
  omega

set_option maxHeartbeats 4000000 in
theorem putU_any (A : Option Addr) (l : List Int) (n c : Nat) (v0 : Int) (w : World) (h : Rd w w.heap.size A l) (hn : n = l.length) (hl : n ≤ 10000000) (h0 : 0 ≤ v0) (h1 : v0 < 18446744073709551616) :
    Calls Try.prog 32 #[.slice A n c, .int .u64 v0] w fun e w' => ∃ v, e = .returned v ∧ OwnB w' w.heap.size v (l ++ encU v0) ∧ Below w.heap.size w w' := by
  have HR := Lib.hid h
  have HN := Lib.hid hn
  clear h hn
  have H0 := Lib.hid (And.intro h0 h1)
  clear h0 h1
  go_enter Try.func32, Try.ntmps32
  go_wp2
  go_loopw [1, 5] (fun v u wr => ∃ (x : Int) (k : Nat) (gs : List Int), k ≤ 9 ∧ v = .int .u64 x ∧ Hid (0 ≤ x ∧ x < 128 ^ (9 - k + 1) ∧ 0 ≤ x ∧ x < 18446744073709551616 ∧ gs.length = k ∧ IsBytes gs ∧ encU v0 = gs ++ bytesOf (dgU (9 - k) x) ∧ OwnB wr w.heap.size u (gs) ∧ Below w.heap.size w wr)) (fun v _ _ => (intOf v).toNat)
  case atStart => have := H0.out; exact ⟨v0, 0, [], by omega, rfl, by omega, by simp; omega, by omega, by omega, rfl, IsBytes.nil, rfl, OwnB.nil _ _, Below.refl _ _⟩
  case round =>
    obtain ⟨x, k, gs, hk, rfl, HX⟩ := hrel
    obtain ⟨x1, x2, x8, x9, x3, x4, x5, x6, x7⟩ := HX.out
    have ho := or128 x
    by_cases hlt : 128 ≤ x
    · have hk9 : k < 9 := by
        rcases Nat.lt_or_ge k 9 with h | h
        · exact h
        · obtain rfl : k = 9 := by omega
          simp at x1 x2; omega
      have HY : Hid (0 ≤ x / 128 ∧ x / 128 < 128 ^ (9 - (k + 1) + 1) ∧ encU v0 = (gs ++ [x % 128 + 128]) ++ bytesOf (dgU (9 - (k + 1)) (x / 128))) := by
        refine ⟨by omega, ?_, ?_⟩
        · rw [show 9 - (k + 1) + 1 = 9 - k from by omega]
          rw [Int.pow_succ] at x2
          omega
        · rw [x5, show 9 - k = 9 - (k + 1) + 1 from by omega, bytesU_more _ x hlt]
          simp
      clear x1 x2 x3 x4 x5 x6 x7
      go_wp2_with (first | (at_builtin; refine wpList_app1 rfl (.tmp 8) (.tmp 12) rfl w.heap.size u5 (gs) rfl HX.out.2.2.2.2.2.2.2.1 _ rfl (by omega) (by omega) (by rw [HX.out.2.2.2.2.1]; omega) HX.out.2.2.2.2.2.2.2.2.size ?_; intro v1 w1 hv1 hw1; have HV := Lib.hid (And.intro hv1 hw1); clear hv1 hw1))
      all_goals exact ⟨⟨x / 128, k + 1, gs ++ [x % 128 + 128], by omega, rfl, HY.out.1, HY.out.2.1, by omega, by omega, by simp [HX.out.2.2.2.2.1], HX.out.2.2.2.2.2.1.app (IsBytes.one (by omega) (by omega)), HY.out.2.2, HV.out.1, HX.out.2.2.2.2.2.2.2.2.trans HV.out.2⟩, by simp [intOf]; omega⟩
    · have HY : Hid (encU v0 = gs ++ [x]) := by
        have := x5
        rw [bytesU_last _ x (by omega)] at this
        exact this
      have hm : x % 256 = x := by omega
      clear x1 x2 x3 x4 x5 x6 x7 ho
      go_wp2_with (first | (at_builtin; refine wpList_app1 rfl (.tmp 17) (.tmp 20) rfl w.heap.size u5 (gs) rfl HX.out.2.2.2.2.2.2.2.1 _ rfl (by omega) (by omega) (by rw [HX.out.2.2.2.2.1]; omega) HX.out.2.2.2.2.2.2.2.2.size ?_; intro v1 w1 hv1 hw1; obtain ⟨A2, c2, hv2, hr2, hl2⟩ := hv1.form (HX.out.2.2.2.2.2.1.app (IsBytes.one (by omega) (by omega))); subst hv2; have HV := Lib.hid (And.intro hr2 hw1); clear hv1 hw1 hr2 hl2))
      have hb2 : Below w.heap.size w w1 := HX.out.2.2.2.2.2.2.2.2.trans HV.out.2
      refine (put_any A A2 l (gs ++ [x]) n _ c c2 w1 (HR.out.later hb2) HV.out.1 HN.out (by simp) (by omega) (by simp [HX.out.2.2.2.2.1]; omega)).mono ?_
      rintro e w' ⟨v, rfl, ho, hb⟩
      have HO := Lib.hid (And.intro (ho.base hb2.size) (hb2.trans (hb.mono hb2.size)))
      clear ho hb hb2
      go_wp2
      go_ret
      exact ⟨_, rfl, by rw [HY.out]; exact HO.out.1, HO.out.2⟩

set_option maxHeartbeats 4000000 in
theorem putS_any (A : Option Addr) (l : List Int) (n c : Nat) (v0 : Int) (w : World) (h : Rd w w.heap.size A l) (hn : n = l.length) (hl : n ≤ 10000000) (h0 : -9223372036854775808 ≤ v0) (h1 : v0 < 9223372036854775808) :
    Calls Try.prog 66 #[.slice A n c, .int .i64 v0] w fun e w' => ∃ v, e = .returned v ∧ OwnB w' w.heap.size v (l ++ encS v0) ∧ Below w.heap.size w w' := by
  have HR := Lib.hid h
  have HN := Lib.hid hn
  clear h hn
  have H0 := Lib.hid (And.intro h0 h1)
  clear h0 h1
  go_enter Try.func66, Try.ntmps66
  go_wp2
  go_loopw [1, 5] (fun v u wr => ∃ (x : Int) (k : Nat) (gs : List Int), k ≤ 9 ∧ v = .int .i64 x ∧ Hid (-(64 * 128 ^ (9 - k)) ≤ x ∧ x < 64 * 128 ^ (9 - k) ∧ -9223372036854775808 ≤ x ∧ x < 9223372036854775808 ∧ gs.length = k ∧ IsBytes gs ∧ encS v0 = gs ++ bytesOf (dgS (9 - k) x) ∧ OwnB wr w.heap.size u (gs) ∧ Below w.heap.size w wr)) (fun v _ _ => (intOf v).natAbs)
  case atStart => have := H0.out; exact ⟨v0, 0, [], by omega, rfl, by simp; omega, by simp; omega, by omega, by omega, rfl, IsBytes.nil, rfl, OwnB.nil _ _, Below.refl _ _⟩
  case round =>
    obtain ⟨x, k, gs, hk, rfl, HX⟩ := hrel
    obtain ⟨x1, x2, x8, x9, x3, x4, x5, x6, x7⟩ := HX.out
    have ho := or128 x
    by_cases hlt : ¬ (-64 ≤ x ∧ x ≤ 63)
    · have hk9 : k < 9 := by
        rcases Nat.lt_or_ge k 9 with h | h
        · exact h
        · obtain rfl : k = 9 := by omega
          simp at x1 x2; omega
      have HY : Hid (-(64 * 128 ^ (9 - (k + 1))) ≤ x / 128 ∧ x / 128 < 64 * 128 ^ (9 - (k + 1)) ∧ encS v0 = (gs ++ [x % 128 + 128]) ++ bytesOf (dgS (9 - (k + 1)) (x / 128))) := by
        rw [show 9 - k = 9 - (k + 1) + 1 from by omega, Int.pow_succ] at x1 x2
        refine ⟨by omega, by omega, ?_⟩
        rw [x5, show 9 - k = 9 - (k + 1) + 1 from by omega, bytesS_more _ x hlt]
        simp
      have ht : (x / 64 == 0 || x / 64 == -1) = false := by simp; omega
      clear x1 x2 x3 x4 x5 x6 x7
      go_wp2_with (first | (go_at_call 67; refine (alike_any _ _).mono ?_; rintro e w' ⟨rfl, rfl⟩) | (at_builtin; refine wpList_app1 rfl (.tmp 10) (.tmp 14) rfl w.heap.size u5 (gs) rfl HX.out.2.2.2.2.2.2.2.1 _ rfl (by omega) (by omega) (by rw [HX.out.2.2.2.2.1]; omega) HX.out.2.2.2.2.2.2.2.2.size ?_; intro v1 w1 hv1 hw1; have HV := Lib.hid (And.intro hv1 hw1); clear hv1 hw1))
      all_goals exact ⟨⟨x / 128, k + 1, gs ++ [x % 128 + 128], by omega, rfl, HY.out.1, HY.out.2.1, by omega, by omega, by simp [HX.out.2.2.2.2.1], HX.out.2.2.2.2.2.1.app (IsBytes.one (by omega) (by omega)), HY.out.2.2, HV.out.1, HX.out.2.2.2.2.2.2.2.2.trans HV.out.2⟩, by simp [intOf]; omega⟩
    · have HY : Hid (encS v0 = gs ++ [x % 128]) := by
        have := x5
        rw [bytesS_last _ x (by omega)] at this
        exact this
      have ha := andn128 x
      have ht : (x / 64 == 0 || x / 64 == -1) = true := by simp; omega
      clear x1 x2 x3 x4 x5 x6 x7 ho
      go_wp2_with (first | (go_at_call 67; refine (alike_any _ _).mono ?_; rintro e w' ⟨rfl, rfl⟩) | (at_builtin; refine wpList_app1 rfl (.tmp 19) (.tmp 23) rfl w.heap.size u5 (gs) rfl HX.out.2.2.2.2.2.2.2.1 _ rfl (by omega) (by omega) (by rw [HX.out.2.2.2.2.1]; omega) HX.out.2.2.2.2.2.2.2.2.size ?_; intro v1 w1 hv1 hw1; obtain ⟨A2, c2, hv2, hr2, hl2⟩ := hv1.form (HX.out.2.2.2.2.2.1.app (IsBytes.one (by omega) (by omega))); subst hv2; have HV := Lib.hid (And.intro hr2 hw1); clear hv1 hw1 hr2 hl2))
      have hb2 : Below w.heap.size w w1 := HX.out.2.2.2.2.2.2.2.2.trans HV.out.2
      refine (put_any A A2 l (gs ++ [x % 128]) n _ c c2 w1 (HR.out.later hb2) HV.out.1 HN.out (by simp) (by omega) (by simp [HX.out.2.2.2.2.1]; omega)).mono ?_
      rintro e w' ⟨v, rfl, ho, hb⟩
      have HO := Lib.hid (And.intro (ho.base hb2.size) (hb2.trans (hb.mono hb2.size)))
      clear ho hb hb2
      go_wp2
      go_ret
      exact ⟨_, rfl, by rw [HY.out]; exact HO.out.1, HO.out.2⟩
end Go.Proofs.Ytdngkbagfaeplaa

/- req.Take: which request bytes are. -/
namespace Go.Proofs.Ytdngkbagfaeplaa
open Go.RowKit
set_option maxRecDepth 100000
set_option linter.unusedVariables false

structure Req where
  kind : Int
  token : Int
  handle : Int
  name : List Int
  body : List Int
  args : List Int
  ticks : Int
  other : Int
deriving DecidableEq
def zreq : Req := ⟨0, 0, 0, [], [], [], 0, 0⟩
def pRest (k tok : Int) : PR Req :=
  if k = 1 then fun l => .ok (⟨1, tok, 0, [], l, [], 0, 0⟩, [])
  else if k = 2 then seq (pU 64) fun h => seq (pName 32) fun n l => .ok (⟨2, tok, h, n, [], [], 0, 0⟩, l)
  else if k = 3 then seq (pName 32) fun n l => .ok (⟨3, tok, 0, n, [], [], 0, 0⟩, l)
  else if k = 4 then seq (pU 64) fun h => seq (pName 32) fun n => seq (pList 8) fun xs => seq (pU 64) fun ti l => .ok (⟨4, tok, h, n, [], xs, ti, 0⟩, l)
  else if k = 5 then seq (pU 64) fun h l => .ok (⟨5, tok, h, [], [], [], 0, 0⟩, l)
  else seq pWord fun o l => .ok (⟨6, tok, 0, [], [], [], 0, o⟩, l)
theorem pRest_1 (tok : Int) : pRest 1 tok = fun l => .ok (⟨1, tok, 0, [], l, [], 0, 0⟩, []) := rfl
theorem pRest_2 (tok : Int) : pRest 2 tok = seq (pU 64) fun h => seq (pName 32) fun n l => .ok (⟨2, tok, h, n, [], [], 0, 0⟩, l) := rfl
theorem pRest_3 (tok : Int) : pRest 3 tok = seq (pName 32) fun n l => .ok (⟨3, tok, 0, n, [], [], 0, 0⟩, l) := rfl
theorem pRest_4 (tok : Int) : pRest 4 tok = seq (pU 64) fun h => seq (pName 32) fun n => seq (pList 8) fun xs => seq (pU 64) fun ti l => .ok (⟨4, tok, h, n, [], xs, ti, 0⟩, l) := rfl
theorem pRest_5 (tok : Int) : pRest 5 tok = seq (pU 64) fun h l => .ok (⟨5, tok, h, [], [], [], 0, 0⟩, l) := rfl
theorem pRest_6 (tok : Int) : pRest 6 tok = seq pWord fun o l => .ok (⟨6, tok, 0, [], [], [], 0, o⟩, l) := rfl
def pReq : PR Req := seq pKind fun k => seq pWord fun tok => pRest k tok
def done {α : Type} (r : α × List Int) : Except Int α := if r.2 = [] then .ok r.1 else .error 2
def takeReq (b : List Int) : Except Int Req := bd (bd (.ok b) pReq) done
def codeOf {α : Type} (x : Except Int α) : Int := match x with
  | .error e => e
  | .ok _ => 0
def reqOf (x : Except Int Req) : Req := match x with
  | .error _ => zreq
  | .ok q => q
def Req.Ok (q : Req) : Prop := (-9223372036854775808 ≤ q.kind ∧ q.kind < 9223372036854775808) ∧ (0 ≤ q.token ∧ q.token < 18446744073709551616) ∧ (0 ≤ q.handle ∧ q.handle < 18446744073709551616) ∧ IsBytes q.name ∧ (0 ≤ q.ticks ∧ q.ticks < 18446744073709551616) ∧ (0 ≤ q.other ∧ q.other < 18446744073709551616)
theorem ok_mk {k tok h ti o : Int} {n b a : List Int} (h1 : 0 ≤ k) (h2 : k ≤ 255) (h3 : 0 ≤ tok) (h4 : tok ≤ 18446744073709551615) (h5 : 0 ≤ h) (h6 : h ≤ 18446744073709551615) (h7 : IsBytes n) (h8 : 0 ≤ ti) (h9 : ti ≤ 18446744073709551615) (h10 : 0 ≤ o) (h11 : o ≤ 18446744073709551615) : Req.Ok ⟨k, tok, h, n, b, a, ti, o⟩ :=
  ⟨⟨by simp only []; omega, by simp only []; omega⟩, ⟨h3, by simp only []; omega⟩, ⟨h5, by simp only []; omega⟩, h7, ⟨h8, by simp only []; omega⟩, ⟨h10, by simp only []; omega⟩⟩
/-- A request, as a value. -/
def ReqV (X : Nat → Prop) (w : World) (v : Value) (q : Req) : Prop :=
  ∃ A c B d, v = .agg #[.int .i64 q.kind, .int .u64 q.token, .int .u64 q.handle, .string (strOfNums q.name), .slice A q.body.length c, .slice B q.args.length d, .int .u64 q.ticks, .int .u64 q.other] ∧
    RdX X w A q.body ∧ q.body.length ≤ c ∧ c ≤ maxLen ∧ RdU X w B q.args ∧ q.args.length ≤ d ∧ d ≤ maxLen ∧ q.Ok
def TakePost (b : List Int) (w : World) (e : Ending) (w' : World) : Prop :=
  ∃ v, e = .returned (.tuple #[v, .int .i64 (codeOf (takeReq b))]) ∧ ReqV (fun k => w.heap.size ≤ k) w' v (reqOf (takeReq b)) ∧ Below w.heap.size w w'

theorem zreq_v (X : Nat → Prop) (w : World) : ReqV X w (.agg #[.int .i64 0, .int .u64 0, .int .u64 0, .string ⟨#[]⟩, .slice none 0 0, .slice none 0 0, .int .u64 0, .int .u64 0]) zreq :=
  ⟨none, 0, none, 0, rfl, RdX.nil _ _ _, Nat.le_refl _, Nat.zero_le _, RdU.nil _ _ _, Nat.le_refl _, Nat.zero_le _, ⟨by decide, by decide⟩, ⟨by decide, by decide⟩, ⟨by decide, by decide⟩, IsBytes.nil, ⟨by decide, by decide⟩, ⟨by decide, by decide⟩⟩
theorem kind_zero (b : List Int) (h : ∀ a l', bd (.ok b) pKind = .ok (a, l') → 0 = a) : ∃ e, nx pKind (.ok b) = .error e ∧ pKind b = .error e := by
  rw [bd_ok] at h
  cases hp : pKind b with
  | error e => exact ⟨e, by rw [nx_ok, hp]; rfl, rfl⟩
  | ok r =>
    exfalso
    have := h r.1 r.2 (by rw [hp])
    unfold pKind seq at hp
    cases hq : pByte b with
    | error e => rw [hq] at hp; cases hp
    | ok q =>
      rw [hq, bd_ok] at hp
      simp only [] at hp
      split at hp
      · cases hp
      · injection hp with hp; rw [← hp] at this; simp only [] at this; omega
theorem whole_eq {α : Type} (s : St) (y : List Int) (f : List Int → α) (h : ∀ a l', bd s (pBytes (lenS s)) = .ok (a, l') → y = a) : bd s (fun l => .ok (f l, ([] : List Int))) = bd (nx (pBytes (lenS s)) s) fun l => .ok (f y, l) := by
  cases s with
  | error e => rfl
  | ok l =>
    have hp : pBytes l.length l = .ok (l, []) := by simp [pBytes]
    simp only [lenS, bd_ok, nx_ok, hp] at h ⊢
    rw [h l [] rfl]
theorem fin_cases (s : St) (hs : ∀ e, s = .error e → 0 < e) (rq : Req) :
    (endS s = 0 ∧ codeOf (bd s fun l => done (rq, l)) = 0 ∧ reqOf (bd s fun l => done (rq, l)) = rq) ∨ (endS s ≠ 0 ∧ codeOf (bd s fun l => done (rq, l)) = endS s ∧ reqOf (bd s fun l => done (rq, l)) = zreq) := by
  rcases s with e | (_ | ⟨x, l⟩)
  · have := hs e rfl
    exact .inr ⟨by simp only [endS]; omega, rfl, rfl⟩
  · exact .inl ⟨rfl, rfl, rfl⟩
  · exact .inr ⟨by simp [endS], rfl, rfl⟩
theorem RdrAt.err {w : World} {g : Nat} {t : TypeId} {tl : RTl} {s : St} (h : RdrAt w g t tl s) : ∀ e, s = .error e → 0 < e := fun e he => by subst he; exact h.2.1

theorem own_cells8 {w : World} {g : Nat} {t : TypeId} {a0 a1 a2 a3 a4 a5 a6 a7 : Value} (h : Own w g t [a0, a1, a2, a3, a4, a5, a6, a7]) :
    w.cell? ⟨g, 0, none⟩ = some a0 ∧ w.cell? ⟨g, 1, none⟩ = some a1 ∧ w.cell? ⟨g, 2, none⟩ = some a2 ∧ w.cell? ⟨g, 3, none⟩ = some a3 ∧ w.cell? ⟨g, 4, none⟩ = some a4 ∧ w.cell? ⟨g, 5, none⟩ = some a5 ∧ w.cell? ⟨g, 6, none⟩ = some a6 ∧ w.cell? ⟨g, 7, none⟩ = some a7 ∧
    w.frozen? ⟨g, 0, none⟩ = false ∧ w.frozen? ⟨g, 1, none⟩ = false ∧ w.frozen? ⟨g, 2, none⟩ = false ∧ w.frozen? ⟨g, 3, none⟩ = false ∧ w.frozen? ⟨g, 4, none⟩ = false ∧ w.frozen? ⟨g, 5, none⟩ = false ∧ w.frozen? ⟨g, 6, none⟩ = false ∧ w.frozen? ⟨g, 7, none⟩ = false :=
  ⟨h.cell 0, h.cell 1, h.cell 2, h.cell 3, h.cell 4, h.cell 5, h.cell 6, h.cell 7, h.frozen 0, h.frozen 1, h.frozen 2, h.frozen 3, h.frozen 4, h.frozen 5, h.frozen 6, h.frozen 7⟩

/-- A result that is stored. -/
def put8 (w : World) (g : Nat) (a : Array Value) : World := ((((((((w.setCell ⟨g, 0, none⟩ (a.getD 0 undef)).setCell ⟨g, 1, none⟩ (a.getD 1 undef)).setCell ⟨g, 2, none⟩ (a.getD 2 undef)).setCell ⟨g, 3, none⟩ (a.getD 3 undef)).setCell ⟨g, 4, none⟩ (a.getD 4 undef)).setCell ⟨g, 5, none⟩ (a.getD 5 undef)).setCell ⟨g, 6, none⟩ (a.getD 6 undef)).setCell ⟨g, 7, none⟩ (a.getD 7 undef))
theorem chg8 (w : World) (g : Nat) (a : Array Value) : Chg (fun k => k = g) w (put8 w g a) :=
  (((((((chgSet w g 0 _).trans (chgSet _ g 1 _) fun _ _ e => e).trans (chgSet _ g 2 _) fun _ _ e => e).trans (chgSet _ g 3 _) fun _ _ e => e).trans (chgSet _ g 4 _) fun _ _ e => e).trans (chgSet _ g 5 _) fun _ _ e => e).trans (chgSet _ g 6 _) fun _ _ e => e).trans (chgSet _ g 7 _) fun _ _ e => e
theorem own_put8 {w : World} {g : Nat} {t : TypeId} {b0 b1 b2 b3 b4 b5 b6 b7 : Value} (h : Own w g t [b0, b1, b2, b3, b4, b5, b6, b7]) (a0 a1 a2 a3 a4 a5 a6 a7 : Value) : Own (put8 w g #[a0, a1, a2, a3, a4, a5, a6, a7]) g t [a0, a1, a2, a3, a4, a5, a6, a7] :=
  (((((((h.set 0 a0).set 1 a1).set 2 a2).set 3 a3).set 4 a4).set 5 a5).set 6 a6).set 7 a7

section
variable {T : TypeId} {N : Nat} {Z : List Value} {w : World} {g2 g4 g5 : Nat} {Q : List Value} {s s' : St} {wr w' : World}
end
theorem RdrAt.len {w : World} {g : Nat} {t : TypeId} {tl : RTl} {s : St} (h : RdrAt w g t tl s) : lenS s ≤ 1000000 := by
  cases s with
  | ok l => obtain ⟨A, c, r, _, _, _, _, h, _⟩ := h; exact h
  | error e => simp [lenS]
end Go.Proofs.Ytdngkbagfaeplaa

/- req's writers: what their calls come to. -/
namespace Go.Proofs.Ytdngkbagfaeplaa
open Go.RowKit
set_option maxRecDepth 100000
set_option linter.unusedVariables false

/-- Something was appended to v. -/
def GPost (base : Nat) (v : Value) (l : List Int) (w : World) (e : Ending) (w' : World) : Prop := ∃ v', e = .returned v' ∧ OwnB w' base v' l ∧ Grew v w v' w'

theorem shr_byte (x : Int) (k : Nat) (hk : k < 8) : x / 2 ^ (8 * (7 - k)) % 256 = (be8 x).getD k 0 := (be8_get x k hk).symm
theorem be8_take (x : Int) (k : Nat) (hk : k < 8) : (be8 x).take (k + 1) = (be8 x).take k ++ [(be8 x).getD k 0] := by
  rw [List.take_add_one, List.getD_eq_getElem?_getD, List.getElem?_eq_getElem (by rw [be8_len]; exact hk)]
  rfl
/-- The bytes of some numbers. -/
def encs : List Int → List Int
  | [] => []
  | x :: t => encU x ++ encs t
theorem encs_app (a b : List Int) : encs (a ++ b) = encs a ++ encs b := by
  induction a with
  | nil => rfl
  | cons x t ih => simp [encs, ih]
theorem encU_len (v : Int) : 0 < (encU v).length ∧ (encU v).length ≤ 10 := by
  unfold encU; rw [bytesOf_length]; exact ⟨List.length_pos_iff.2 (dgU_ne _ _), dgU_len 9 v⟩
theorem encU_is (v : Int) (h0 : 0 ≤ v) (h1 : v < 18446744073709551616) : IsBytes (encU v) := bytesU_is 9 v h0 (by simp; omega)
theorem encs_is (l : List Int) (h : IsU64 l) : IsBytes (encs l) := by
  induction l with
  | nil => exact IsBytes.nil
  | cons x t ih => exact (encU_is x (h x (by simp)).1 (h x (by simp)).2).app (ih fun z hz => h z (by simp [hz]))
theorem encs_len (l : List Int) : (encs l).length ≤ 10 * l.length := by
  induction l with
  | nil => simp [encs]
  | cons x t ih => have := (encU_len x).2; simp [encs]; omega
theorem Grew.rdU {X : Nat → Prop} {v v' : Value} {w w' : World} {A : Option Addr} {l : List Int} (h : Grew v w v' w') (hr : RdU X w A l) (hx : ∀ k, k < w.heap.size → X k → v.ownBlock ≠ some k) : RdU X w' A l := hr.chg h.1 fun k hk hX e => hx k hk hX e
theorem Grew.rdX {X : Nat → Prop} {v v' : Value} {w w' : World} {A : Option Addr} {l : List Int} (h : Grew v w v' w') (hr : RdX X w A l) (hx : ∀ k, k < w.heap.size → X k → v.ownBlock ≠ some k) : RdX X w' A l := hr.chg h.1 fun k hk hX e => hx k hk hX e

end Go.Proofs.Ytdngkbagfaeplaa

/- types.TakeFunc and types.TakeLimits: which types bytes are. -/
namespace Go.Proofs.Ytdngkbagfaeplaa
open Go.RowKit
set_option maxRecDepth 100000
set_option linter.unusedVariables false

/-- How many bytes were read. -/
def readOf {α : Type} (b : List Int) (x : Except Int (α × List Int)) : Int := match x with
  | .error _ => 0
  | .ok r => (b.length : Int) - r.2.length
def fnOf (x : Except Int (Fn × List Int)) : Fn := match x with
  | .error _ => ([], [])
  | .ok r => r.1
def limOf (x : Except Int (Lim × List Int)) : Lim := match x with
  | .error _ => ⟨0, 0, false⟩
  | .ok r => r.1
def FnV (X : Nat → Prop) (w : World) (v : Value) (f : Fn) : Prop :=
  ∃ A c B d, v = .agg #[.slice A f.1.length c, .slice B f.2.length d] ∧ RdX X w A f.1 ∧ f.1.length ≤ c ∧ c ≤ maxLen ∧ RdX X w B f.2 ∧ f.2.length ≤ d ∧ d ≤ maxLen
def limV (l : Lim) : Value := .agg #[.int .u32 l.min, .int .u32 l.max, .bool l.has]
def FnPost (b : List Int) (w : World) (e : Ending) (w' : World) : Prop :=
  ∃ v, e = .returned (.tuple #[v, .int .i64 (readOf b (pFn b)), .int .i64 (codeOf (pFn b))]) ∧ FnV (fun k => w.heap.size ≤ k) w' v (fnOf (pFn b)) ∧ Below w.heap.size w w'
def LimPost (b : List Int) (w : World) (e : Ending) (w' : World) : Prop :=
  e = .returned (.tuple #[limV (limOf (pLim b)), .int .i64 (readOf b (pLim b)), .int .i64 (codeOf (pLim b))]) ∧ Below w.heap.size w w'
theorem zfn_v (X : Nat → Prop) (w : World) : FnV X w (.agg #[.slice none 0 0, .slice none 0 0]) ([], []) :=
  ⟨none, 0, none, 0, rfl, RdX.nil _ _ _, Nat.le_refl _, Nat.zero_le _, RdX.nil _ _ _, Nat.le_refl _, Nat.zero_le _⟩

def NoByte (Q : List Value) : Prop := ∀ u ∈ Q, ∀ x : Int, u ≠ .int .u8 x
theorem RdX.apart {X : Nat → Prop} {w : World} {A : Option Addr} {l : List Int} {g : Nat} {T : TypeId} {Q : List Value} (h : RdX X w A l) (ho : Own w g T Q) (hq : NoByte Q) : RdX (fun k => X k ∧ k ≠ g) w A l := by
  refine ⟨h.1, fun j u hu => ?_⟩
  obtain ⟨ad, e1, e2, e3⟩ := h.2 j u hu
  refine ⟨ad, e1, ⟨e2, fun hg => ?_⟩, e3⟩
  rw [List.getElem?_map] at hu
  obtain ⟨z, -, rfl⟩ := Option.map_eq_some_iff.1 hu
  obtain ⟨b, o, sp⟩ := ad
  have hs : (Addr.add ⟨b, o, sp⟩ j).block = b := addBlock _ _
  generalize hp : (Addr.add ⟨b, o, sp⟩ j) = p at *
  obtain ⟨pb, po, ps⟩ := p
  have hn : ps = none := by simpa using World.cell?_spot e3
  subst hn
  simp only [] at hs hg
  subst hs hg
  rw [ho.cell] at e3
  exact hq _ (List.mem_of_getElem? e3) z rfl
theorem RdrAt.setOther {w : World} {g g2 : Nat} {t T : TypeId} {tl : RTl} {s : St} {Q : List Value} (h : RdrAt w g t tl s) (ho : Own w g2 T Q) (hq : NoByte Q) (hg : g2 ≠ g) (j : Nat) (u : Value) : RdrAt (w.setCell ⟨g2, j, none⟩ u) g t tl s := by
  have hc := chgSet w g2 j u
  cases s with
  | ok l =>
    obtain ⟨A, c, r, h1, h2, h5⟩ := h
    exact ⟨A, c, r, h1.chg hc (Ne.symm hg), ((h2.apart ho hq).chg hc fun k _ hk => hk.2).mono fun k _ hk => hk.1, h5⟩
  | error e => exact ⟨h.1.chg hc (Ne.symm hg), h.2⟩

section
variable {T : TypeId} {w : World} {g2 g4 N : Nat} {Q : List Value} {s s' : St} {wr w' : World}
end
end Go.Proofs.Ytdngkbagfaeplaa

/- slices.Concat at bytes, of as many slices as there are. -/
namespace Go.Proofs.Ytdngkbagfaeplaa
open Go.RowKit
set_option maxRecDepth 100000
set_option linter.unusedVariables false

theorem flat_step (ls : List (List Int)) (k : Nat) (hk : k < ls.length) : (ls.take (k + 1)).flatten = (ls.take k).flatten ++ ls.getD k [] := by
  rw [List.take_add_one, List.getElem?_eq_getElem hk, List.getD_eq_getElem?_getD, List.getElem?_eq_getElem hk]
  simp only [Option.toList_some, List.flatten_append, List.flatten_cons, List.flatten_nil, List.append_nil, Option.getD_some]
theorem flat_le (ls : List (List Int)) (k : Nat) : (ls.take k).flatten.length ≤ ls.flatten.length := by
  conv => rhs; rw [← List.take_append_drop k ls]
  rw [List.flatten_append, List.length_append]
  omega
set_option maxHeartbeats 2000000 in
theorem concatL_any {X : Nat → Prop} (A : Option Addr) (n c : Nat) (ls : List (List Int)) (w : World) (h : RdL X w (.slice A n c) ls) (hn : n = ls.length) (hb : ls.flatten.length ≤ 100000000) (hm : n ≤ 1000000) :
    Calls Try.prog 7 #[.slice A n c] w fun e w' => ∃ v, e = .returned v ∧ OwnB w' w.heap.size v ls.flatten ∧ Below w.heap.size w w' := by
  have HL := Lib.hid (And.intro h (And.intro hn hb))
  clear h hn hb
  go_enter Try.func7, Try.ntmps7
  go_wp2
  go_loop [3, 11] (fun s i => ∃ (k q : Nat), k ≤ n ∧ i = .int .i64 k ∧ s = .int .i64 q ∧ q ≤ 100000000 ∧ Hid (q = (ls.take k).flatten.length)) (fun _ i => n - (intOf i).toNat)
  case atStart => exact ⟨0, 0, by omega, rfl, rfl, by omega, by unfold Hid; simp⟩
  case round =>
    obtain ⟨k, q, hk, rfl, rfl, hq, HQ⟩ := hrel
    by_cases hlt : k < n
    · have hkl : k < ls.length := by rw [← HL.out.2.1]; exact hlt
      have hlt2 : (k : Int) < n := by omega
      obtain ⟨b, o, B, d, rfl, hX, hb, hcell, hl, hd, hr⟩ := HL.out.1.at_ hkl
      have HF : Hid (q + (ls.getD k []).length = (ls.take (k + 1)).flatten.length ∧ q + (ls.getD k []).length ≤ 100000000) := by
        have h1 := flat_step ls k hkl
        have h2 := flat_le ls (k + 1)
        have h3 := HL.out.2.2
        rw [h1] at h2 ⊢
        rw [List.length_append] at h2 ⊢
        have := HQ.out
        exact ⟨by omega, by omega⟩
      have hqb := HF.out.2
      clear hr hX hb hl hd
      generalize (ls.getD k []).length = m at *
      go_wp2
      exact ⟨⟨k + 1, q + m, by omega, by go_num, by go_num, by omega, HF.out.1⟩, by simp [intOf]; omega⟩
    · obtain rfl : k = n := by omega
      have HQ2 : Hid (q = ls.flatten.length) := by
        have := HQ.out
        rwa [HL.out.2.1, List.take_length] at this
      go_wp2_with fail
      refine (grow_any q w (by omega)).mono ?_
      rintro e w' ⟨v, rfl, ho, hbl⟩
      have HO := Lib.hid ho
      have HB := Lib.hid hbl
      clear ho hbl
      go_wp2
      go_loopw [6, 27] (fun u i wr => ∃ (j : Nat), j ≤ k ∧ i = .int .i64 j ∧ Hid (OwnB wr w.heap.size u (ls.take j).flatten ∧ Below w.heap.size w wr)) (fun _ i _ => k - (intOf i).toNat)
      case atStart => exact ⟨0, by omega, rfl, by simpa using HO.out, HB.out⟩
      case round =>
        obtain ⟨j, hj, rfl, HX⟩ := hrel
        by_cases hlt : j < k
        · have hkl : j < ls.length := by rw [← HL.out.2.1]; exact hlt
          have hlt2 : (j : Int) < k := by omega
          obtain ⟨b, o, B, d, rfl, hX, hb, hcell, hl, hd, hr⟩ := HL.out.1.at_ hkl
          have hcell := (HX.out.2.cell (p := ⟨b, o + j, none⟩) hb).trans hcell
          have HR := Lib.hid (hr.rd.later HX.out.2)
          have HS := Lib.hid (flat_step ls j hkl)
          have hlen : (ls.take j).flatten.length + (ls.getD j []).length ≤ 1000000000 := by
            have h2 := flat_le ls (j + 1)
            rw [HS.out, List.length_append] at h2
            have h3 := HL.out.2.2
            omega
          clear hr hX hb hl hd
          generalize hm' : (ls.getD j []).length = m at *
          have HM := Lib.hid hm'
          clear hm'
          go_wp2_with (at_builtin; refine wpList_app rfl (.tmp 31) (.tmp 32) rfl w.heap.size u6 _ rfl HX.out.1 B m d (ls.getD j []) rfl HM.out.symm HR.out (by omega) HX.out.2.size ?_; intro v1 w1 hv1 hw1; rw [← HS.out] at hv1; have HV := Lib.hid (And.intro hv1 hw1); clear hv1 hw1)
          go_wp2
          exact ⟨⟨j + 1, by omega, by go_num, HV.out.1, HX.out.2.trans HV.out.2⟩, by simp [intOf]; omega⟩
        · obtain rfl : j = k := by omega
          go_wp2
          go_ret
          have h1 := HX.out.1
          rw [HL.out.2.1, List.take_length] at h1
          exact ⟨_, rfl, h1, HX.out.2⟩
end Go.Proofs.Ytdngkbagfaeplaa

/- types' writers: what their calls come to. -/
namespace Go.Proofs.Ytdngkbagfaeplaa
open Go.RowKit
set_option maxRecDepth 100000
set_option linter.unusedVariables false

theorem number_any (x : Int) (w : World) (h0 : 0 ≤ x) (h1 : x < 18446744073709551616) :
    Calls Try.prog 51 #[.int .u64 x] w fun e w' => ∃ v, e = .returned v ∧ OwnB w' w.heap.size v (encU x) ∧ Below w.heap.size w w' := by
  have HP := Lib.hid (putU_any none [] 0 0 x w (Rd.nil _ _ _) rfl (by omega) h0 h1)
  go_enter Try.func51, Try.ntmps51
  go_wp2_with fail
  refine HP.out.mono ?_
  rintro e w' ⟨v, rfl, ho, hb⟩
  have HO := Lib.hid (And.intro ho hb)
  clear ho hb
  go_wp2
  go_ret
  exact ⟨_, rfl, HO.out.1, HO.out.2⟩
theorem count_any (A : Option Addr) (n c : Nat) (w : World) (h : n ≤ maxLen) :
    Calls Try.prog 49 #[.slice A n c] w fun e w' => ∃ v, e = .returned v ∧ OwnB w' w.heap.size v (encU n) ∧ Below w.heap.size w w' := by
  unfold maxLen at h
  have HP := Lib.hid (number_any n w (by omega) (by omega))
  go_enter Try.func49, Try.ntmps49
  go_wp2_with fail
  refine HP.out.mono ?_
  rintro e w' ⟨v, rfl, ho, hb⟩
  have HO := Lib.hid (And.intro ho hb)
  clear ho hb
  go_wp2
  go_ret
  exact ⟨_, rfl, HO.out.1, HO.out.2⟩
/-- A list of lists as it is written out. -/
theorem rdL_lit (w : World) (us : List Value) (ls : List (List Int)) (h : All2 (fun u l => ∃ B d, u = .slice B l.length d ∧ l.length ≤ d ∧ d ≤ maxLen ∧ RdX (fun _ => True) w B l) us ls) (hm : ls.length ≤ maxLen) :
    RdL (fun _ => True) (w.alloc (.cells us.toArray 44)) (.slice (some ⟨w.heap.size, 0, none⟩) ls.length ls.length) ls := by
  have hb := (Below.refl w.heap.size w).alloc (Nat.le_refl _) (.cells us.toArray 44)
  refine ⟨_, _, us, rfl, Nat.le_refl _, hm, fun j u hu => ⟨_, rfl, trivial, ?_⟩, h.mono fun u l ⟨B, d, a, b, c, e⟩ => ⟨B, d, a, b, c, e.later hb⟩⟩
  rw [addPlain, Nat.zero_add, (Own.new w 44 us).cell]
  exact hu
abbrev SlV (w : World) (u : Value) (l : List Int) : Prop := ∃ B d, u = .slice B l.length d ∧ l.length ≤ d ∧ d ≤ maxLen ∧ RdX (fun _ => True) w B l
theorem SlV.later {w w' : World} {u : Value} {l : List Int} (h : SlV w u l) (hb : Below w.heap.size w w') : SlV w' u l := by
  obtain ⟨B, d, a, b, c, e⟩ := h
  exact ⟨B, d, a, b, c, e.later hb⟩
theorem SlV.own {w : World} {base : Nat} {u : Value} {l : List Int} (h : OwnB w base u l) (hl : IsBytes l) : SlV w u l := by
  obtain ⟨B, d, a, b, c, e⟩ := h.rdX hl
  exact ⟨B, d, a, b, c, e.mono fun _ _ _ => trivial⟩
theorem SlV.lit (w : World) (l : List Int) (hl : IsBytes l) (hm : l.length ≤ maxLen) : SlV (w.alloc (.cells (l.map (Value.int .u8)).toArray 5)) (.slice (some ⟨w.heap.size, 0, none⟩) l.length l.length) l :=
  ⟨_, _, rfl, Nat.le_refl _, hm, (rdX_lit w l hl).mono fun _ _ _ => trivial⟩

def putFn (f : Fn) : List Int := 96 :: (encU f.1.length ++ (f.1 ++ (encU f.2.length ++ f.2)))
def putLim (l : Lim) : List Int := if l.has then 1 :: (encU l.min ++ encU l.max) else 0 :: encU l.min
def WPost (bs : List Int) (w : World) (e : Ending) (w' : World) : Prop := ∃ u, e = .returned u ∧ OwnB w' w.heap.size u bs ∧ Below w.heap.size w w'
/-- Six slices, put together. -/
theorem concat6_any (w : World) (g : Nat) (hg : g = w.heap.size) (u0 u1 u2 u3 u4 u5 : Value) (l0 l1 l2 l3 l4 l5 : List Int) (h0 : SlV w u0 l0) (h1 : SlV w u1 l1) (h2 : SlV w u2 l2) (h3 : SlV w u3 l3) (h4 : SlV w u4 l4) (h5 : SlV w u5 l5) (hb : (l0 ++ (l1 ++ (l2 ++ (l3 ++ (l4 ++ l5))))).length ≤ 100000000) :
    Calls Try.prog 7 #[.slice (some ⟨g, 0, none⟩) 6 6] (w.alloc (.cells #[u0, u1, u2, u3, u4, u5] 44)) (WPost (l0 ++ (l1 ++ (l2 ++ (l3 ++ (l4 ++ l5))))) w) := by
  subst hg
  have hA : All2 (SlV w) [u0, u1, u2, u3, u4, u5] [l0, l1, l2, l3, l4, l5] := (All2.one h0).app ((All2.one h1).app ((All2.one h2).app ((All2.one h3).app ((All2.one h4).app (All2.one h5)))))
  have hL := rdL_lit w [u0, u1, u2, u3, u4, u5] [l0, l1, l2, l3, l4, l5] hA (by simp [maxLen])
  have hf : [l0, l1, l2, l3, l4, l5].flatten = l0 ++ (l1 ++ (l2 ++ (l3 ++ (l4 ++ l5)))) := by simp
  have hB := (Below.refl w.heap.size w).alloc (Nat.le_refl _) (.cells #[u0, u1, u2, u3, u4, u5] 44)
  refine (concatL_any _ 6 6 [l0, l1, l2, l3, l4, l5] _ hL rfl (by rw [hf]; exact hb) (by omega)).mono ?_
  rintro e w' ⟨v, rfl, ho, hb⟩
  rw [hf] at ho
  have hs := hB.size
  exact ⟨v, rfl, ho.base hs, hB.trans (hb.mono hs)⟩
theorem concat4_any (w : World) (g : Nat) (hg : g = w.heap.size) (u0 u1 u2 u3 : Value) (l0 l1 l2 l3 : List Int) (h0 : SlV w u0 l0) (h1 : SlV w u1 l1) (h2 : SlV w u2 l2) (h3 : SlV w u3 l3) (hb : (l0 ++ (l1 ++ (l2 ++ l3))).length ≤ 100000000) :
    Calls Try.prog 7 #[.slice (some ⟨g, 0, none⟩) 4 4] (w.alloc (.cells #[u0, u1, u2, u3] 44)) (WPost (l0 ++ (l1 ++ (l2 ++ l3))) w) := by
  subst hg
  have hA : All2 (SlV w) [u0, u1, u2, u3] [l0, l1, l2, l3] := (All2.one h0).app ((All2.one h1).app ((All2.one h2).app (All2.one h3)))
  have hL := rdL_lit w [u0, u1, u2, u3] [l0, l1, l2, l3] hA (by simp [maxLen])
  have hf : [l0, l1, l2, l3].flatten = l0 ++ (l1 ++ (l2 ++ l3)) := by simp
  have hB := (Below.refl w.heap.size w).alloc (Nat.le_refl _) (.cells #[u0, u1, u2, u3] 44)
  refine (concatL_any _ 4 4 [l0, l1, l2, l3] _ hL rfl (by rw [hf]; exact hb) (by omega)).mono ?_
  rintro e w' ⟨v, rfl, ho, hb⟩
  rw [hf] at ho
  have hs := hB.size
  exact ⟨v, rfl, ho.base hs, hB.trans (hb.mono hs)⟩
theorem concat3_any (w : World) (g : Nat) (hg : g = w.heap.size) (u0 u1 u2 : Value) (l0 l1 l2 : List Int) (h0 : SlV w u0 l0) (h1 : SlV w u1 l1) (h2 : SlV w u2 l2) (hb : (l0 ++ (l1 ++ l2)).length ≤ 100000000) :
    Calls Try.prog 7 #[.slice (some ⟨g, 0, none⟩) 3 3] (w.alloc (.cells #[u0, u1, u2] 44)) (WPost (l0 ++ (l1 ++ l2)) w) := by
  subst hg
  have hA : All2 (SlV w) [u0, u1, u2] [l0, l1, l2] := (All2.one h0).app ((All2.one h1).app (All2.one h2))
  have hL := rdL_lit w [u0, u1, u2] [l0, l1, l2] hA (by simp [maxLen])
  have hf : [l0, l1, l2].flatten = l0 ++ (l1 ++ l2) := by simp
  have hB := (Below.refl w.heap.size w).alloc (Nat.le_refl _) (.cells #[u0, u1, u2] 44)
  refine (concatL_any _ 3 3 [l0, l1, l2] _ hL rfl (by rw [hf]; exact hb) (by omega)).mono ?_
  rintro e w' ⟨v, rfl, ho, hb⟩
  rw [hf] at ho
  have hs := hB.size
  exact ⟨v, rfl, ho.base hs, hB.trans (hb.mono hs)⟩
end Go.Proofs.Ytdngkbagfaeplaa

/- types.PutLimits: which bytes limits have. -/
namespace Go.Proofs.Ytdngkbagfaeplaa
open Go.RowKit
set_option maxRecDepth 100000
set_option linter.unusedVariables false

theorem putLim_no (a b : Int) : putLim ⟨a, b, false⟩ = [0] ++ encU a := by simp [putLim]
theorem putLim_yes (a b : Int) : putLim ⟨a, b, true⟩ = [1] ++ (encU a ++ encU b) := by simp [putLim]
def Lim.Ok (l : Lim) : Prop := (0 ≤ l.min ∧ l.min ≤ 4294967295) ∧ (0 ≤ l.max ∧ l.max ≤ 4294967295)
set_option maxHeartbeats 2000000 in
theorem put_lim (A0 : Option Addr) (bs : List Int) (n0 c0 : Nat) (l : Lim) (w : World) (h0 : Rd w w.heap.size A0 bs) (hn0 : n0 = bs.length) (hc0 : n0 ≤ c0) (hcm : c0 ≤ maxLen) (hl0 : n0 ≤ 1000000) (hl : l.Ok) :
    Calls Try.prog 34 #[.slice A0 n0 c0, limV l] w (WPost (bs ++ putLim l) w) := by
  obtain ⟨mn, mx, has⟩ := l
  obtain ⟨⟨a0, a1⟩, b0, b1⟩ := hl
  simp only [] at a0 a1 b0 b1
  have S0 : Hid (SlV w (.slice A0 n0 c0) bs) := ⟨A0, c0, by rw [hn0], by omega, hcm, h0.rx.mono fun _ _ _ => trivial⟩
  have HN := Lib.hid hn0
  have I1 := Lib.hid (encU_is mn (by omega) (by omega))
  have I2 := Lib.hid (encU_is mx (by omega) (by omega))
  have L1 := Lib.hid (encU_len mn)
  have L2 := Lib.hid (encU_len mx)
  have KS0 : Hid (∀ W : World, Below (w.alloc (.cells #[.int .u32 mn, .int .u32 mx, .bool has] 39)).heap.size (w.alloc (.cells #[.int .u32 mn, .int .u32 mx, .bool has] 39)) W → W.cell? ⟨w.heap.size, 0, none⟩ = some (.int .u32 mn) ∧ W.cell? ⟨w.heap.size, 1, none⟩ = some (.int .u32 mx) ∧ W.cell? ⟨w.heap.size, 2, none⟩ = some (.bool has)) := fun W hW => by
    have ho := (Own.new w 39 [.int .u32 mn, .int .u32 mx, .bool has]).later hW
    exact ⟨ho.cell 0, ho.cell 1, ho.cell 2⟩
  have HB1 : Hid (Below w.heap.size w (w.alloc (.cells #[.int .u32 mn, .int .u32 mx, .bool has] 39))) := (Below.refl _ _).alloc (Nat.le_refl _) _
  have hw1 : IntKind.u64.wrap mn = mn := by rw [IntKind.wrap_u64]; omega
  have hw2 : IntKind.u64.wrap mx = mx := by rw [IntKind.wrap_u64]; omega
  clear h0 hn0
  unfold limV
  go_enter Try.func34, Try.ntmps34
  go_upto_region 1 with fail
  have KS := KS0
  clear KS0
  generalize w.alloc (.cells #[.int .u32 mn, .int .u32 mx, .bool has] 39) = w1 at *
  obtain ⟨k0, k1, k2⟩ := KS.out w1 (Below.refl _ _)
  go_wp2_with fail
  refine (number_any mn w1 (by omega) (by omega)).mono ?_
  rintro e w2 ⟨v2, rfl, ho2, hb2⟩
  clear k0 k1 k2
  obtain ⟨k0, k1, k2⟩ := KS.out w2 hb2
  obtain ⟨B2, d2, rfl, -, -, -⟩ := ho2.rdX I1.out
  have S2 := Lib.hid (SlV.own ho2 I1.out)
  have S0 := Lib.hid ((S0.out.later HB1.out).later hb2)
  have HB2 := Lib.hid (HB1.out.trans (hb2.mono HB1.out.size))
  have KS := Lib.hid (fun (W : World) (hW : Below w2.heap.size w2 W) => KS.out W (hb2.trans (hW.mono hb2.size)))
  clear ho2 hb2
  generalize hq2 : (encU mn).length = q2 at *
  have HQ2 := Lib.hid hq2
  clear hq2
  have HLb : Hid (∀ (W : World) (x : Int), 0 ≤ x → x ≤ 255 → SlV (W.alloc (.cells #[.int .u8 x] 5)) (.slice (some ⟨W.heap.size, 0, none⟩) 1 1) [x] ∧ Below W.heap.size W (W.alloc (.cells #[.int .u8 x] 5))) := fun W x p q => ⟨SlV.lit W [x] (IsBytes.one p q) (by simp [maxLen]), (Below.refl _ _).alloc (Nat.le_refl _) _⟩
  cases has with
  | false =>
    have hX := HLb.out w2 0 (by omega) (by omega)
    have HC := Lib.hid (concat3_any (w2.alloc (.cells #[.int .u8 0] 5)) (w2.heap.size + 1) (by simp) (.slice A0 n0 c0) (.slice (some ⟨w2.heap.size, 0, none⟩) 1 1) (.slice B2 q2 d2) bs [0] (encU mn) (S0.out.later hX.2) hX.1 (S2.out.later hX.2) (by have := HN.out; have := L1.out; have := HQ2.out; simp only [List.length_append, List.length_cons, List.length_nil]; omega))
    have HX := Lib.hid hX.2
    clear hX
    go_wp2_with fail
    refine HC.out.mono ?_
    rintro e w3 ⟨v3, rfl, ho3, hb3⟩
    have HO := Lib.hid (And.intro ho3 hb3)
    clear ho3 hb3
    go_wp2
    go_ret
    have h1 := HB2.out.trans (HX.out.mono HB2.out.size)
    have e1 : bs ++ putLim ⟨mn, mx, false⟩ = bs ++ ([0] ++ encU mn) := by rw [putLim_no]
    exact ⟨_, rfl, by rw [e1]; exact HO.out.1.base h1.size, h1.trans (HO.out.2.mono h1.size)⟩
  | true =>
    have hX := HLb.out w2 1 (by omega) (by omega)
    have HX := Lib.hid hX
    clear hX
    have hk := KS.out _ HX.out.2
    obtain ⟨j0, j1, j2⟩ := hk
    go_wp2_with fail
    refine (number_any mx _ (by omega) (by omega)).mono ?_
    rintro e w3 ⟨v3, rfl, ho3, hb3⟩
    obtain ⟨B3, d3, rfl, -, -, -⟩ := ho3.rdX I2.out
    have S3 := Lib.hid (SlV.own ho3 I2.out)
    have S1 := Lib.hid (HX.out.1.later hb3)
    have h13 := HX.out.2.trans (hb3.mono HX.out.2.size)
    have HB3 := Lib.hid (HB2.out.trans (h13.mono HB2.out.size))
    generalize hq3 : (encU mx).length = q3 at *
    have HQ3 := Lib.hid hq3
    clear hq3
    have HC := Lib.hid (concat4_any w3 w3.heap.size rfl (.slice A0 n0 c0) (.slice (some ⟨w2.heap.size, 0, none⟩) 1 1) (.slice B2 q2 d2) (.slice B3 q3 d3) bs [1] (encU mn) (encU mx) (S0.out.later h13) S1.out (S2.out.later h13) S3.out (by have := HN.out; have := L1.out; have := L2.out; have := HQ2.out; have := HQ3.out; simp only [List.length_append, List.length_cons, List.length_nil]; omega))
    clear ho3 hb3 h13 k0 k1 k2 j0 j1 j2
    go_wp2_with fail
    refine HC.out.mono ?_
    rintro e w4 ⟨v4, rfl, ho4, hb4⟩
    have HO := Lib.hid (And.intro ho4 hb4)
    clear ho4 hb4
    go_wp2
    go_ret
    have h1 := HB3.out
    have e1 : bs ++ putLim ⟨mn, mx, true⟩ = bs ++ ([1] ++ (encU mn ++ encU mx)) := by rw [putLim_yes]
    exact ⟨_, rfl, by rw [e1]; exact HO.out.1.base h1.size, h1.trans (HO.out.2.mono h1.size)⟩
end Go.Proofs.Ytdngkbagfaeplaa

/- Package reader: signed numbers, and Failed. (Written by gen_ReaderS.py.) -/
namespace Go.Proofs.Ytdngkbagfaeplaa
open Go.RowKit
set_option maxRecDepth 100000
set_option linter.unusedVariables false

/-- A signed number that was read. -/
def SgPost (K : IntKind) (lo hi : Int) (R : Int → Int → Prop) (p : PR Int) (g : Nat) (t : TypeId) (tl : RTl) (s : St) (w : World) (e : Ending) (w' : World) : Prop :=
  ∃ x, e = .returned (.int K x) ∧ lo ≤ x ∧ x ≤ hi ∧ RdrAt w' g t tl (nx p s) ∧ (∀ a l', bd s p = .ok (a, l') → R x a) ∧ Chg (fun k => k = g) w w'
theorem wrap32_rng (u : Int) : -2147483648 ≤ wrap32 u ∧ wrap32 u ≤ 2147483647 ∧ wrap32 u % 4294967296 = u % 4294967296 := by
  unfold wrap32
  refine ⟨?_, ?_, ?_⟩ <;> omega

def failedS (s : St) : Bool := match s with
  | .error _ => true
  | .ok _ => false
end Go.Proofs.Ytdngkbagfaeplaa
