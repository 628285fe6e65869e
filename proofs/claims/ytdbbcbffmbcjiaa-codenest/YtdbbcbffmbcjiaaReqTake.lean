/- req.Take: which request bytes are. -/
import Derived.Test.YtdbbcbffmbcjiaaReqSrc
namespace Go.Proofs.Ytdbbcbffmbcjiaa
open Go.RowKit
set_option maxRecDepth 100000
set_option linter.unusedVariables false

structure Req where
  kind : Int
  token : Int
  handle : Int
  name : List Int
  body : List Int
  args : List Int
  ticks : Int
  other : Int
deriving DecidableEq
def zreq : Req := ⟨0, 0, 0, [], [], [], 0, 0⟩
def pRest (k tok : Int) : PR Req :=
  if k = 1 then fun l => .ok (⟨1, tok, 0, [], l, [], 0, 0⟩, [])
  else if k = 2 then seq (pU 64) fun h => seq (pName 32) fun n l => .ok (⟨2, tok, h, n, [], [], 0, 0⟩, l)
  else if k = 3 then seq (pName 32) fun n l => .ok (⟨3, tok, 0, n, [], [], 0, 0⟩, l)
  else if k = 4 then seq (pU 64) fun h => seq (pName 32) fun n => seq (pList 8) fun xs => seq (pU 64) fun ti l => .ok (⟨4, tok, h, n, [], xs, ti, 0⟩, l)
  else if k = 5 then seq (pU 64) fun h l => .ok (⟨5, tok, h, [], [], [], 0, 0⟩, l)
  else seq pWord fun o l => .ok (⟨6, tok, 0, [], [], [], 0, o⟩, l)
theorem pRest_1 (tok : Int) : pRest 1 tok = fun l => .ok (⟨1, tok, 0, [], l, [], 0, 0⟩, []) := rfl
theorem pRest_2 (tok : Int) : pRest 2 tok = seq (pU 64) fun h => seq (pName 32) fun n l => .ok (⟨2, tok, h, n, [], [], 0, 0⟩, l) := rfl
theorem pRest_3 (tok : Int) : pRest 3 tok = seq (pName 32) fun n l => .ok (⟨3, tok, 0, n, [], [], 0, 0⟩, l) := rfl
theorem pRest_4 (tok : Int) : pRest 4 tok = seq (pU 64) fun h => seq (pName 32) fun n => seq (pList 8) fun xs => seq (pU 64) fun ti l => .ok (⟨4, tok, h, n, [], xs, ti, 0⟩, l) := rfl
theorem pRest_5 (tok : Int) : pRest 5 tok = seq (pU 64) fun h l => .ok (⟨5, tok, h, [], [], [], 0, 0⟩, l) := rfl
theorem pRest_6 (tok : Int) : pRest 6 tok = seq pWord fun o l => .ok (⟨6, tok, 0, [], [], [], 0, o⟩, l) := rfl
def pReq : PR Req := seq pKind fun k => seq pWord fun tok => pRest k tok
def done {α : Type} (r : α × List Int) : Except Int α := if r.2 = [] then .ok r.1 else .error 2
def takeReq (b : List Int) : Except Int Req := bd (bd (.ok b) pReq) done
def codeOf {α : Type} (x : Except Int α) : Int := match x with
  | .error e => e
  | .ok _ => 0
def reqOf (x : Except Int Req) : Req := match x with
  | .error _ => zreq
  | .ok q => q
def Req.Ok (q : Req) : Prop := (-9223372036854775808 ≤ q.kind ∧ q.kind < 9223372036854775808) ∧ (0 ≤ q.token ∧ q.token < 18446744073709551616) ∧ (0 ≤ q.handle ∧ q.handle < 18446744073709551616) ∧ IsBytes q.name ∧ (0 ≤ q.ticks ∧ q.ticks < 18446744073709551616) ∧ (0 ≤ q.other ∧ q.other < 18446744073709551616)
theorem ok_mk {k tok h ti o : Int} {n b a : List Int} (h1 : 0 ≤ k) (h2 : k ≤ 255) (h3 : 0 ≤ tok) (h4 : tok ≤ 18446744073709551615) (h5 : 0 ≤ h) (h6 : h ≤ 18446744073709551615) (h7 : IsBytes n) (h8 : 0 ≤ ti) (h9 : ti ≤ 18446744073709551615) (h10 : 0 ≤ o) (h11 : o ≤ 18446744073709551615) : Req.Ok ⟨k, tok, h, n, b, a, ti, o⟩ :=
  ⟨⟨by simp only []; omega, by simp only []; omega⟩, ⟨h3, by simp only []; omega⟩, ⟨h5, by simp only []; omega⟩, h7, ⟨h8, by simp only []; omega⟩, ⟨h10, by simp only []; omega⟩⟩
/-- A request, as a value. -/
def ReqV (X : Nat → Prop) (w : World) (v : Value) (q : Req) : Prop :=
  ∃ A c B d, v = .agg #[.int .i64 q.kind, .int .u64 q.token, .int .u64 q.handle, .string (strOfNums q.name), .slice A q.body.length c, .slice B q.args.length d, .int .u64 q.ticks, .int .u64 q.other] ∧
    RdX X w A q.body ∧ q.body.length ≤ c ∧ c ≤ maxLen ∧ RdU X w B q.args ∧ q.args.length ≤ d ∧ d ≤ maxLen ∧ q.Ok
def TakePost (b : List Int) (w : World) (e : Ending) (w' : World) : Prop :=
  ∃ v, e = .returned (.tuple #[v, .int .i64 (codeOf (takeReq b))]) ∧ ReqV (fun k => w.heap.size ≤ k) w' v (reqOf (takeReq b)) ∧ Below w.heap.size w w'

theorem zreq_v (X : Nat → Prop) (w : World) : ReqV X w (.agg #[.int .i64 0, .int .u64 0, .int .u64 0, .string ⟨#[]⟩, .slice none 0 0, .slice none 0 0, .int .u64 0, .int .u64 0]) zreq :=
  ⟨none, 0, none, 0, rfl, RdX.nil _ _ _, Nat.le_refl _, Nat.zero_le _, RdU.nil _ _ _, Nat.le_refl _, Nat.zero_le _, ⟨by decide, by decide⟩, ⟨by decide, by decide⟩, ⟨by decide, by decide⟩, IsBytes.nil, ⟨by decide, by decide⟩, ⟨by decide, by decide⟩⟩
theorem kind_zero (b : List Int) (h : ∀ a l', bd (.ok b) pKind = .ok (a, l') → 0 = a) : ∃ e, nx pKind (.ok b) = .error e ∧ pKind b = .error e := by
  rw [bd_ok] at h
  cases hp : pKind b with
  | error e => exact ⟨e, by rw [nx_ok, hp]; rfl, rfl⟩
  | ok r =>
    exfalso
    have := h r.1 r.2 (by rw [hp])
    unfold pKind seq at hp
    cases hq : pByte b with
    | error e => rw [hq] at hp; cases hp
    | ok q =>
      rw [hq, bd_ok] at hp
      simp only [] at hp
      split at hp
      · cases hp
      · injection hp with hp; rw [← hp] at this; simp only [] at this; omega
theorem whole_eq {α : Type} (s : St) (y : List Int) (f : List Int → α) (h : ∀ a l', bd s (pBytes (lenS s)) = .ok (a, l') → y = a) : bd s (fun l => .ok (f l, ([] : List Int))) = bd (nx (pBytes (lenS s)) s) fun l => .ok (f y, l) := by
  cases s with
  | error e => rfl
  | ok l =>
    have hp : pBytes l.length l = .ok (l, []) := by simp [pBytes]
    simp only [lenS, bd_ok, nx_ok, hp] at h ⊢
    rw [h l [] rfl]
theorem fin_cases (s : St) (hs : ∀ e, s = .error e → 0 < e) (rq : Req) :
    (endS s = 0 ∧ codeOf (bd s fun l => done (rq, l)) = 0 ∧ reqOf (bd s fun l => done (rq, l)) = rq) ∨ (endS s ≠ 0 ∧ codeOf (bd s fun l => done (rq, l)) = endS s ∧ reqOf (bd s fun l => done (rq, l)) = zreq) := by
  rcases s with e | (_ | ⟨x, l⟩)
  · have := hs e rfl
    exact .inr ⟨by simp only [endS]; omega, rfl, rfl⟩
  · exact .inl ⟨rfl, rfl, rfl⟩
  · exact .inr ⟨by simp [endS], rfl, rfl⟩
theorem RdrAt.err {w : World} {g : Nat} {t : TypeId} {tl : RTl} {s : St} (h : RdrAt w g t tl s) : ∀ e, s = .error e → 0 < e := fun e he => by subst he; exact h.2.1

theorem rnew_any (A : Option Addr) (n c : Nat) (w : World) : Calls Try.prog 17 #[.slice A n c] w fun e w' => e = .returned (.agg #[.slice A n c, .int .i64 0, .int .i64 0]) ∧ Below w.heap.size w w' := by
  go_enter Try.func17, Try.ntmps17
  go_wp2
  go_returns
  exact ⟨rfl, (Below.refl _ _).alloc (Nat.le_refl _) _⟩

theorem own_cells8 {w : World} {g : Nat} {t : TypeId} {a0 a1 a2 a3 a4 a5 a6 a7 : Value} (h : Own w g t [a0, a1, a2, a3, a4, a5, a6, a7]) :
    w.cell? ⟨g, 0, none⟩ = some a0 ∧ w.cell? ⟨g, 1, none⟩ = some a1 ∧ w.cell? ⟨g, 2, none⟩ = some a2 ∧ w.cell? ⟨g, 3, none⟩ = some a3 ∧ w.cell? ⟨g, 4, none⟩ = some a4 ∧ w.cell? ⟨g, 5, none⟩ = some a5 ∧ w.cell? ⟨g, 6, none⟩ = some a6 ∧ w.cell? ⟨g, 7, none⟩ = some a7 ∧
    w.frozen? ⟨g, 0, none⟩ = false ∧ w.frozen? ⟨g, 1, none⟩ = false ∧ w.frozen? ⟨g, 2, none⟩ = false ∧ w.frozen? ⟨g, 3, none⟩ = false ∧ w.frozen? ⟨g, 4, none⟩ = false ∧ w.frozen? ⟨g, 5, none⟩ = false ∧ w.frozen? ⟨g, 6, none⟩ = false ∧ w.frozen? ⟨g, 7, none⟩ = false :=
  ⟨h.cell 0, h.cell 1, h.cell 2, h.cell 3, h.cell 4, h.cell 5, h.cell 6, h.cell 7, h.frozen 0, h.frozen 1, h.frozen 2, h.frozen 3, h.frozen 4, h.frozen 5, h.frozen 6, h.frozen 7⟩

/-- A result that is stored. -/
def put8 (w : World) (g : Nat) (a : Array Value) : World := ((((((((w.setCell ⟨g, 0, none⟩ (a.getD 0 undef)).setCell ⟨g, 1, none⟩ (a.getD 1 undef)).setCell ⟨g, 2, none⟩ (a.getD 2 undef)).setCell ⟨g, 3, none⟩ (a.getD 3 undef)).setCell ⟨g, 4, none⟩ (a.getD 4 undef)).setCell ⟨g, 5, none⟩ (a.getD 5 undef)).setCell ⟨g, 6, none⟩ (a.getD 6 undef)).setCell ⟨g, 7, none⟩ (a.getD 7 undef))
theorem chg8 (w : World) (g : Nat) (a : Array Value) : Chg (fun k => k = g) w (put8 w g a) :=
  (((((((chgSet w g 0 _).trans (chgSet _ g 1 _) fun _ _ e => e).trans (chgSet _ g 2 _) fun _ _ e => e).trans (chgSet _ g 3 _) fun _ _ e => e).trans (chgSet _ g 4 _) fun _ _ e => e).trans (chgSet _ g 5 _) fun _ _ e => e).trans (chgSet _ g 6 _) fun _ _ e => e).trans (chgSet _ g 7 _) fun _ _ e => e
theorem own_put8 {w : World} {g : Nat} {t : TypeId} {b0 b1 b2 b3 b4 b5 b6 b7 : Value} (h : Own w g t [b0, b1, b2, b3, b4, b5, b6, b7]) (a0 a1 a2 a3 a4 a5 a6 a7 : Value) : Own (put8 w g #[a0, a1, a2, a3, a4, a5, a6, a7]) g t [a0, a1, a2, a3, a4, a5, a6, a7] :=
  (((((((h.set 0 a0).set 1 a1).set 2 a2).set 3 a3).set 4 a4).set 5 a5).set 6 a6).set 7 a7

section
variable {T : TypeId} {N : Nat} {Z : List Value} {w : World} {g2 g4 g5 : Nat} {Q : List Value} {s s' : St} {wr w' : World}
end
theorem RdrAt.len {w : World} {g : Nat} {t : TypeId} {tl : RTl} {s : St} (h : RdrAt w g t tl s) : lenS s ≤ 1000000 := by
  cases s with
  | ok l => obtain ⟨A, c, r, _, _, _, _, h, _⟩ := h; exact h
  | error e => simp [lenS]
end Go.Proofs.Ytdbbcbffmbcjiaa
