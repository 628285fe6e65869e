/- req.Take: which request bytes are. -/
import Derived.Test.YtnjbijndfbobbaaReqSrc
namespace Go.Proofs.Ytnjbijndfbobbaa
open Go.RowKit
set_option maxRecDepth 100000
set_option linter.unusedVariables false

structure Req where
  kind : Int
  token : Int
  handle : Int
  name : List Int
  body : List Int
  args : List Int
  ticks : Int
  other : Int
deriving DecidableEq
def zreq : Req := ⟨0, 0, 0, [], [], [], 0, 0⟩
def pRest (k tok : Int) : PR Req :=
  if k = 1 then fun l => .ok (⟨1, tok, 0, [], l, [], 0, 0⟩, [])
  else if k = 2 then seq (pU 64) fun h => seq (pName 32) fun n l => .ok (⟨2, tok, h, n, [], [], 0, 0⟩, l)
  else if k = 3 then seq (pName 32) fun n l => .ok (⟨3, tok, 0, n, [], [], 0, 0⟩, l)
  else if k = 4 then seq (pU 64) fun h => seq (pName 32) fun n => seq (pList 8) fun xs => seq (pU 64) fun ti l => .ok (⟨4, tok, h, n, [], xs, ti, 0⟩, l)
  else if k = 5 then seq (pU 64) fun h l => .ok (⟨5, tok, h, [], [], [], 0, 0⟩, l)
  else seq pWord fun o l => .ok (⟨6, tok, 0, [], [], [], 0, o⟩, l)
theorem pRest_1 (tok : Int) : pRest 1 tok = fun l => .ok (⟨1, tok, 0, [], l, [], 0, 0⟩, []) := rfl
theorem pRest_2 (tok : Int) : pRest 2 tok = seq (pU 64) fun h => seq (pName 32) fun n l => .ok (⟨2, tok, h, n, [], [], 0, 0⟩, l) := rfl
theorem pRest_3 (tok : Int) : pRest 3 tok = seq (pName 32) fun n l => .ok (⟨3, tok, 0, n, [], [], 0, 0⟩, l) := rfl
theorem pRest_4 (tok : Int) : pRest 4 tok = seq (pU 64) fun h => seq (pName 32) fun n => seq (pList 8) fun xs => seq (pU 64) fun ti l => .ok (⟨4, tok, h, n, [], xs, ti, 0⟩, l) := rfl
theorem pRest_5 (tok : Int) : pRest 5 tok = seq (pU 64) fun h l => .ok (⟨5, tok, h, [], [], [], 0, 0⟩, l) := rfl
theorem pRest_6 (tok : Int) : pRest 6 tok = seq pWord fun o l => .ok (⟨6, tok, 0, [], [], [], 0, o⟩, l) := rfl
def pReq : PR Req := seq pKind fun k => seq pWord fun tok => pRest k tok
def done {α : Type} (r : α × List Int) : Except Int α := if r.2 = [] then .ok r.1 else .error 2
def takeReq (b : List Int) : Except Int Req := bd (bd (.ok b) pReq) done
def codeOf {α : Type} (x : Except Int α) : Int := match x with
  | .error e => e
  | .ok _ => 0
def reqOf (x : Except Int Req) : Req := match x with
  | .error _ => zreq
  | .ok q => q
def Req.Ok (q : Req) : Prop := (-9223372036854775808 ≤ q.kind ∧ q.kind < 9223372036854775808) ∧ (0 ≤ q.token ∧ q.token < 18446744073709551616) ∧ (0 ≤ q.handle ∧ q.handle < 18446744073709551616) ∧ IsBytes q.name ∧ (0 ≤ q.ticks ∧ q.ticks < 18446744073709551616) ∧ (0 ≤ q.other ∧ q.other < 18446744073709551616)
theorem ok_mk {k tok h ti o : Int} {n b a : List Int} (h1 : 0 ≤ k) (h2 : k ≤ 255) (h3 : 0 ≤ tok) (h4 : tok ≤ 18446744073709551615) (h5 : 0 ≤ h) (h6 : h ≤ 18446744073709551615) (h7 : IsBytes n) (h8 : 0 ≤ ti) (h9 : ti ≤ 18446744073709551615) (h10 : 0 ≤ o) (h11 : o ≤ 18446744073709551615) : Req.Ok ⟨k, tok, h, n, b, a, ti, o⟩ :=
  ⟨⟨by simp only []; omega, by simp only []; omega⟩, ⟨h3, by simp only []; omega⟩, ⟨h5, by simp only []; omega⟩, h7, ⟨h8, by simp only []; omega⟩, ⟨h10, by simp only []; omega⟩⟩
/-- A request, as a value. -/
def ReqV (X : Nat → Prop) (w : World) (v : Value) (q : Req) : Prop :=
  ∃ A c B d, v = .agg #[.int .i64 q.kind, .int .u64 q.token, .int .u64 q.handle, .string (strOfNums q.name), .slice A q.body.length c, .slice B q.args.length d, .int .u64 q.ticks, .int .u64 q.other] ∧
    RdX X w A q.body ∧ q.body.length ≤ c ∧ c ≤ maxLen ∧ RdU X w B q.args ∧ q.args.length ≤ d ∧ d ≤ maxLen ∧ q.Ok
def TakePost (b : List Int) (w : World) (e : Ending) (w' : World) : Prop :=
  ∃ v, e = .returned (.tuple #[v, .int .i64 (codeOf (takeReq b))]) ∧ ReqV (fun k => w.heap.size ≤ k) w' v (reqOf (takeReq b)) ∧ Below w.heap.size w w'

theorem zreq_v (X : Nat → Prop) (w : World) : ReqV X w (.agg #[.int .i64 0, .int .u64 0, .int .u64 0, .string ⟨#[]⟩, .slice none 0 0, .slice none 0 0, .int .u64 0, .int .u64 0]) zreq :=
  ⟨none, 0, none, 0, rfl, RdX.nil _ _ _, Nat.le_refl _, Nat.zero_le _, RdU.nil _ _ _, Nat.le_refl _, Nat.zero_le _, ⟨by decide, by decide⟩, ⟨by decide, by decide⟩, ⟨by decide, by decide⟩, IsBytes.nil, ⟨by decide, by decide⟩, ⟨by decide, by decide⟩⟩
theorem kind_zero (b : List Int) (h : ∀ a l', bd (.ok b) pKind = .ok (a, l') → 0 = a) : ∃ e, nx pKind (.ok b) = .error e ∧ pKind b = .error e := by
  rw [bd_ok] at h
  cases hp : pKind b with
  | error e => exact ⟨e, by rw [nx_ok, hp]; rfl, rfl⟩
  | ok r =>
    exfalso
    have := h r.1 r.2 (by rw [hp])
    unfold pKind seq at hp
    cases hq : pByte b with
    | error e => rw [hq] at hp; cases hp
    | ok q =>
      rw [hq, bd_ok] at hp
      simp only [] at hp
      split at hp
      · cases hp
      · injection hp with hp; rw [← hp] at this; simp only [] at this; omega
theorem whole_eq {α : Type} (s : St) (y : List Int) (f : List Int → α) (h : ∀ a l', bd s (pBytes (lenS s)) = .ok (a, l') → y = a) : bd s (fun l => .ok (f l, ([] : List Int))) = bd (nx (pBytes (lenS s)) s) fun l => .ok (f y, l) := by
  cases s with
  | error e => rfl
  | ok l =>
    have hp : pBytes l.length l = .ok (l, []) := by simp [pBytes]
    simp only [lenS, bd_ok, nx_ok, hp] at h ⊢
    rw [h l [] rfl]
theorem fin_cases (s : St) (hs : ∀ e, s = .error e → 0 < e) (rq : Req) :
    (endS s = 0 ∧ codeOf (bd s fun l => done (rq, l)) = 0 ∧ reqOf (bd s fun l => done (rq, l)) = rq) ∨ (endS s ≠ 0 ∧ codeOf (bd s fun l => done (rq, l)) = endS s ∧ reqOf (bd s fun l => done (rq, l)) = zreq) := by
  rcases s with e | (_ | ⟨x, l⟩)
  · have := hs e rfl
    exact .inr ⟨by simp only [endS]; omega, rfl, rfl⟩
  · exact .inl ⟨rfl, rfl, rfl⟩
  · exact .inr ⟨by simp [endS], rfl, rfl⟩
theorem RdrAt.err {w : World} {g : Nat} {t : TypeId} {tl : RTl} {s : St} (h : RdrAt w g t tl s) : ∀ e, s = .error e → 0 < e := fun e he => by subst he; exact h.2.1

theorem rnew_any (A : Option Addr) (n c : Nat) (w : World) : Calls Try.prog 43 #[.slice A n c] w fun e w' => e = .returned (.agg #[.slice A n c, .int .i64 0, .int .i64 0]) ∧ Below w.heap.size w w' := by
  go_enter Try.func43, Try.ntmps43
  go_wp2
  go_returns
  exact ⟨rfl, (Below.refl _ _).alloc (Nat.le_refl _) _⟩

theorem own_cells8 {w : World} {g : Nat} {t : TypeId} {a0 a1 a2 a3 a4 a5 a6 a7 : Value} (h : Own w g t [a0, a1, a2, a3, a4, a5, a6, a7]) :
    w.cell? ⟨g, 0, none⟩ = some a0 ∧ w.cell? ⟨g, 1, none⟩ = some a1 ∧ w.cell? ⟨g, 2, none⟩ = some a2 ∧ w.cell? ⟨g, 3, none⟩ = some a3 ∧ w.cell? ⟨g, 4, none⟩ = some a4 ∧ w.cell? ⟨g, 5, none⟩ = some a5 ∧ w.cell? ⟨g, 6, none⟩ = some a6 ∧ w.cell? ⟨g, 7, none⟩ = some a7 ∧
    w.frozen? ⟨g, 0, none⟩ = false ∧ w.frozen? ⟨g, 1, none⟩ = false ∧ w.frozen? ⟨g, 2, none⟩ = false ∧ w.frozen? ⟨g, 3, none⟩ = false ∧ w.frozen? ⟨g, 4, none⟩ = false ∧ w.frozen? ⟨g, 5, none⟩ = false ∧ w.frozen? ⟨g, 6, none⟩ = false ∧ w.frozen? ⟨g, 7, none⟩ = false :=
  ⟨h.cell 0, h.cell 1, h.cell 2, h.cell 3, h.cell 4, h.cell 5, h.cell 6, h.cell 7, h.frozen 0, h.frozen 1, h.frozen 2, h.frozen 3, h.frozen 4, h.frozen 5, h.frozen 6, h.frozen 7⟩

/-- A result that is stored. -/
def put8 (w : World) (g : Nat) (a : Array Value) : World := ((((((((w.setCell ⟨g, 0, none⟩ (a.getD 0 undef)).setCell ⟨g, 1, none⟩ (a.getD 1 undef)).setCell ⟨g, 2, none⟩ (a.getD 2 undef)).setCell ⟨g, 3, none⟩ (a.getD 3 undef)).setCell ⟨g, 4, none⟩ (a.getD 4 undef)).setCell ⟨g, 5, none⟩ (a.getD 5 undef)).setCell ⟨g, 6, none⟩ (a.getD 6 undef)).setCell ⟨g, 7, none⟩ (a.getD 7 undef))
theorem chg8 (w : World) (g : Nat) (a : Array Value) : Chg (fun k => k = g) w (put8 w g a) :=
  (((((((chgSet w g 0 _).trans (chgSet _ g 1 _) fun _ _ e => e).trans (chgSet _ g 2 _) fun _ _ e => e).trans (chgSet _ g 3 _) fun _ _ e => e).trans (chgSet _ g 4 _) fun _ _ e => e).trans (chgSet _ g 5 _) fun _ _ e => e).trans (chgSet _ g 6 _) fun _ _ e => e).trans (chgSet _ g 7 _) fun _ _ e => e
theorem own_put8 {w : World} {g : Nat} {t : TypeId} {b0 b1 b2 b3 b4 b5 b6 b7 : Value} (h : Own w g t [b0, b1, b2, b3, b4, b5, b6, b7]) (a0 a1 a2 a3 a4 a5 a6 a7 : Value) : Own (put8 w g #[a0, a1, a2, a3, a4, a5, a6, a7]) g t [a0, a1, a2, a3, a4, a5, a6, a7] :=
  (((((((h.set 0 a0).set 1 a1).set 2 a2).set 3 a3).set 4 a4).set 5 a5).set 6 a6).set 7 a7

/-- Within Take: the source in g4, what is made in g5, the result in g2. -/
def Tk (T : TypeId) (N : Nat) (Z : List Value) (w : World) (g2 g4 g5 : Nat) (Q : List Value) (s : St) (wr : World) : Prop :=
  RdrAt wr g4 72 (N, []) s ∧ Own wr g5 T Q ∧ Own wr g2 T Z ∧ g4 < g5 ∧ g2 < g4 ∧ w.heap.size ≤ g2 ∧ Below w.heap.size w wr
section
variable {T : TypeId} {N : Nat} {Z : List Value} {w : World} {g2 g4 g5 : Nat} {Q : List Value} {s s' : St} {wr w' : World}
theorem Tk.step (h : Tk T N Z w g2 g4 g5 Q s wr) (h1 : RdrAt w' g4 72 (N, []) s') (hc : Chg (fun k => k = g4) wr w') : Tk T N Z w g2 g4 g5 Q s' w' := by
  obtain ⟨p1, p2, p3, p4, p5, p6, p7⟩ := h
  exact ⟨h1, p2.chg hc (by omega), p3.chg hc (by omega), p4, p5, p6, p7.trans (hc.below p7.size fun i hi e => by omega)⟩
theorem Tk.set (h : Tk T N Z w g2 g4 g5 Q s wr) (j : Nat) (u : Value) : Tk T N Z w g2 g4 g5 (Q.set j u) s (wr.setCell ⟨g5, j, none⟩ u) := by
  obtain ⟨p1, p2, p3, p4, p5, p6, p7⟩ := h
  have hc := chgSet wr g5 j u
  exact ⟨p1.chg hc fun k hk => by omega, p2.set j u, p3.chg hc (by omega), p4, p5, p6, p7.trans (hc.below p7.size fun i hi e => by omega)⟩
theorem Tk.five (h : Tk T N Z w g2 g4 g5 Q s wr) : g5 < wr.heap.size := h.2.1.lt
theorem Tk.farB (h : Tk T N Z w g2 g4 g5 Q s wr) {v : Value} {y : List Int} {B : Option Addr} (ho : OwnB w' wr.heap.size v y) (hr : RdX (fun k => v.ownBlock = some k) w' B y) : RdX (fun k => g5 < k) w' B y :=
  hr.mono fun k _ e => by have := owns_ge ho e; have := h.five; omega
theorem Tk.farU (h : Tk T N Z w g2 g4 g5 Q s wr) {v : Value} {y : List Int} {B : Option Addr} (ho : OwnU w' wr.heap.size v y) (hr : RdU (fun k => v.ownBlock = some k) w' B y) : RdU (fun k => g5 < k) w' B y :=
  hr.mono fun k _ e => by have := owns_ge ho e; have := h.five; omega
end
theorem RdrAt.len {w : World} {g : Nat} {t : TypeId} {tl : RTl} {s : St} (h : RdrAt w g t tl s) : lenS s ≤ 1000000 := by
  cases s with
  | ok l => obtain ⟨A, c, r, _, _, _, _, h, _⟩ := h; exact h
  | error e => simp [lenS]
set_option maxHeartbeats 2000000 in
theorem take_req (A : Option Addr) (b : List Int) (n c : Nat) (w : World) (h : Rd w w.heap.size A b) (hn : n = b.length) (hl : n ≤ 1000000) (hc : n ≤ c) (hcm : c ≤ maxLen) :
    Calls Try.prog 15 #[.slice A n c] w (TakePost b w) := by
  have HR := Lib.hid h
  have HN := Lib.hid hn
  clear h hn
  go_enter Try.func15, Try.ntmps15
  go_wp2_with fail
  refine (rnew_any A n c _).mono ?_
  rintro e w1 ⟨rfl, hb1⟩
  have HT0 : Hid (Tk 26 n [.int .i64 0, .int .u64 0, .int .u64 0, .string ⟨#[]⟩, .slice none 0 0, .slice none 0 0, .int .u64 0, .int .u64 0] w w.heap.size w1.heap.size (w1.heap.size + 1) [.int .i64 0, .int .u64 0, .int .u64 0, .string ⟨#[]⟩, .slice none 0 0, .slice none 0 0, .int .u64 0, .int .u64 0] (.ok b) ((w1.alloc (.cells #[.slice A n c, .int .i64 0, .int .i64 0] 72)).alloc (.cells #[.int .i64 0, .int .u64 0, .int .u64 0, .string ⟨#[]⟩, .slice none 0 0, .slice none 0 0, .int .u64 0, .int .u64 0] 26))) := by
    have hs := hb1.size
    simp at hs
    have hw1 : Below w.heap.size w w1 := ((Below.refl _ _).alloc (Nat.le_refl _) _).trans (hb1.mono (by simp))
    have hR1 := (HR.out.rx.later hw1).mono (Y := (· < w1.heap.size)) fun k _ hk => by have : k < w.heap.size := hk; omega
    have hA := (Below.refl w1.heap.size w1).alloc (Nat.le_refl _) (.cells #[.slice A n c, .int .i64 0, .int .i64 0] 72)
    have hB := (Below.refl (w1.heap.size + 1) (w1.alloc (.cells #[.slice A n c, .int .i64 0, .int .i64 0] 72))).alloc (by simp) (.cells #[.int .i64 0, .int .u64 0, .int .u64 0, .string ⟨#[]⟩, .slice none 0 0, .slice none 0 0, .int .u64 0, .int .u64 0] 26)
    have e1 : (w1.alloc (.cells #[.slice A n c, .int .i64 0, .int .i64 0] 72)).heap.size = w1.heap.size + 1 := by simp
    refine ⟨⟨A, c, 0, ?_, ?_, by rw [← HN.out]; exact hc, hcm, by rw [← HN.out]; exact hl, by have := HN.out; simp only []; omega, by have := HN.out; simp only []; omega, by simp only []; omega⟩, ?_, ?_, by omega, by omega, Nat.le_refl _, hw1.trans ((hA.mono (by omega)).trans (hB.mono (by omega)))⟩
    · rw [← HN.out]
      exact (Own.new w1 72 [.slice A n c, .int .i64 0, .int .i64 0]).later (by rw [e1]; exact hB)
    · exact (hR1.later hA).later (by rw [e1]; exact hB)
    · have := Own.new (w1.alloc (.cells #[.slice A n c, .int .i64 0, .int .i64 0] 72)) 26 [.int .i64 0, .int .u64 0, .int .u64 0, .string ⟨#[]⟩, .slice none 0 0, .slice none 0 0, .int .u64 0, .int .u64 0]
      rw [e1] at this
      exact this
    · have h2 := (Own.new w 26 [.int .i64 0, .int .u64 0, .int .u64 0, .string ⟨#[]⟩, .slice none 0 0, .slice none 0 0, .int .u64 0, .int .u64 0]).later hb1
      exact (h2.later hA).later (by rw [e1]; exact hB)
  clear hb1
  go_wp2_with fail
  generalize w1.heap.size + 1 = g5 at *
  generalize w1.heap.size = g4 at *
  generalize hg2 : w.heap.size = g2 at HT0 ⊢
  clear hg2
  refine (skind_any g4 _ _ _ _ HT0.out.1).mono ?_
  rintro e w2 ⟨x, rfl, x0, x1, h2, h3, h4⟩
  have hT := HT0.out.step h2 h4
  obtain ⟨c0, c1, c2, c3, c4, c5, c6, c7, f0, f1, f2, f3, f4, f5, f6, f7⟩ := own_cells8 hT.2.1
  have HT := Lib.hid (hT.set 0 (.int .i64 x))
  have HV0 := Lib.hid h3
  clear h2 h3 h4 hT HT0
  go_wp2_with fail
  refine (sword_any g4 _ _ _ _ HT.out.1).mono ?_
  rintro e w3 ⟨tok, rfl, t0, t1, h2, h3, h4⟩
  have hT := HT.out.step h2 h4
  clear c0 c1 c2 c3 c4 c5 c6 c7 f0 f1 f2 f3 f4 f5 f6 f7
  obtain ⟨c0, c1, c2, c3, c4, c5, c6, c7, f0, f1, f2, f3, f4, f5, f6, f7⟩ := own_cells8 hT.2.1
  have HT := Lib.hid (hT.set 1 (.int .u64 tok))
  have HVt := Lib.hid h3
  clear h2 h3 h4 hT
  rcases show x = 0 ∨ x = 1 ∨ x = 2 ∨ x = 3 ∨ x = 4 ∨ x = 5 ∨ x = 6 from by omega with rfl | rfl | rfl | rfl | rfl | rfl | rfl
  all_goals clear x0 x1
  · -- kind 0
    go_wp2_with fail
    refine (rend_any g4 _ _ _ _ HT.out.1).mono ?_
    rintro e wE ⟨rfl, hE⟩
    clear c0 c1 c2 c3 c4 c5 c6 c7 f0 f1 f2 f3 f4 f5 f6 f7
    have hO := HT.out.2.1.chg hE (by have := HT.out.2.2.2.1; omega)
    obtain ⟨c0, c1, c2, c3, c4, c5, c6, c7, f0, f1, f2, f3, f4, f5, f6, f7⟩ := own_cells8 hO
    have hO2 := HT.out.2.2.1.chg hE (by have := HT.out.2.2.2.2.1; omega)
    obtain ⟨r0, r1, r2, r3, r4, r5, r6, r7, s0, s1, s2, s3, s4, s5, s6, s7⟩ := own_cells8 hO2
    have HB : Hid (Below w.heap.size w wE) := HT.out.2.2.2.2.2.2.trans (hE.below HT.out.2.2.2.2.2.2.size fun i hi e => by have := HT.out.2.2.2.2.1; have := HT.out.2.2.2.2.2.1; omega)
    have HK : Hid (takeReq b = bd (nx pWord (nx pKind (.ok b))) fun l => done ((zreq : Req), l)) := by
      show takeReq b = _
      obtain ⟨e, he1, he2⟩ := kind_zero b HV0.out
      simp only [takeReq, pReq, seq, bd_ok, he2, bd_error, he1, nx_error]
    have HO2 := Lib.hid hO2
    have HF := Lib.hid (fin_cases _ HT.out.1.err (zreq : Req))
    rw [← HK.out] at HF
    clear HK hO hO2 hE
    generalize endS (nx pWord (nx pKind (.ok b))) = ee at *
    rcases HF.out with ⟨rfl, hf1, hf2⟩ | ⟨hf0, hf1, hf2⟩
    · exfalso
      obtain ⟨e, he1, he2⟩ := kind_zero b HV0.out
      have := HT.out.1.err e (by rw [he1, nx_error])
      have h3 : takeReq b = .error e := by simp only [takeReq, pReq, seq, bd_ok, he2, bd_error]
      rw [h3] at hf1
      simp only [codeOf] at hf1
      omega
    · have HF1 := Lib.hid (And.intro hf1 hf2)
      have hf3 : (ee != 0) = true := by simpa using hf0
      clear hf1 hf2 HF hf0
      go_wp2
      have hW := own_put8 HO2.out (.int .i64 0) (.int .u64 0) (.int .u64 0) (.string ⟨#[]⟩) (.slice none 0 0) (.slice none 0 0) (.int .u64 0) (.int .u64 0)
      have hC := chg8 wE g2 #[.int .i64 0, .int .u64 0, .int .u64 0, .string ⟨#[]⟩, .slice none 0 0, .slice none 0 0, .int .u64 0, .int .u64 0]
      show bodyPost _ _ _ _ _ (put8 wE g2 #[.int .i64 0, .int .u64 0, .int .u64 0, .string ⟨#[]⟩, .slice none 0 0, .slice none 0 0, .int .u64 0, .int .u64 0])
      generalize put8 wE g2 #[.int .i64 0, .int .u64 0, .int .u64 0, .string ⟨#[]⟩, .slice none 0 0, .slice none 0 0, .int .u64 0, .int .u64 0] = W at *
      clear c0 c1 c2 c3 c4 c5 c6 c7 f0 f1 f2 f3 f4 f5 f6 f7 r0 r1 r2 r3 r4 r5 r6 r7 s0 s1 s2 s3 s4 s5 s6 s7
      obtain ⟨k0, k1, k2, k3, k4, k5, k6, k7, -, -, -, -, -, -, -, -⟩ := own_cells8 hW
      refine bodyPost_ret (by simp [results, Try.results15, go_sem, k0, k1, k2, k3, k4, k5, k6, k7]; try rfl) rfl ?_
      obtain ⟨hf1, hf2⟩ := HF1.out
      refine ⟨_, by rw [hf1], by rw [hf2]; exact zreq_v _ _, HB.out.trans (hC.below HB.out.size fun i hi e => by have := HT.out.2.2.2.2.2.1; omega)⟩
  · -- kind 1
    go_wp2_with fail
    refine (rleft_any g4 _ _ _ _ HT.out.1).mono ?_
    rintro e w0 ⟨rfl, rfl⟩
    go_wp2_with fail
    refine (rbytes_any g4 _ _ _ _ _ HT.out.1 HT.out.1.len).mono ?_
    rintro e w4 ⟨v1, y, rfl, ho, p1, h2, h3, h4, q1⟩
    obtain ⟨B, d, rfl, hd1, hd2, hr⟩ := ho.rdX p1
    have HL := Lib.hid (And.intro (Tk.farB HT.out ho hr) (And.intro hd1 hd2))
    clear ho hr hd1 hd2
    generalize hlen : y.length = len at *
    have HLEN := Lib.hid hlen
    clear hlen
    have hT := HT.out.step h2 h4
    clear c0 c1 c2 c3 c4 c5 c6 c7 f0 f1 f2 f3 f4 f5 f6 f7
    obtain ⟨c0, c1, c2, c3, c4, c5, c6, c7, f0, f1, f2, f3, f4, f5, f6, f7⟩ := own_cells8 hT.2.1
    have HT := Lib.hid (hT.set 4 (.slice B len d))
    have HV1 := Lib.hid h3
    clear h2 h3 h4 hT
    have HL := Lib.hid (And.intro (HL.out.1.chg (chgSet w4 g5 4 (.slice B len d)) (fun k _ hk e => by omega)) HL.out.2)
    go_wp2_with fail
    refine (rend_any g4 _ _ _ _ HT.out.1).mono ?_
    rintro e wE ⟨rfl, hE⟩
    have HL := Lib.hid (And.intro (HL.out.1.chg hE (fun k _ hk e => by have := HT.out.2.2.2.1; omega)) HL.out.2)
    clear c0 c1 c2 c3 c4 c5 c6 c7 f0 f1 f2 f3 f4 f5 f6 f7
    have hO := HT.out.2.1.chg hE (by have := HT.out.2.2.2.1; omega)
    obtain ⟨c0, c1, c2, c3, c4, c5, c6, c7, f0, f1, f2, f3, f4, f5, f6, f7⟩ := own_cells8 hO
    have hO2 := HT.out.2.2.1.chg hE (by have := HT.out.2.2.2.2.1; omega)
    obtain ⟨r0, r1, r2, r3, r4, r5, r6, r7, s0, s1, s2, s3, s4, s5, s6, s7⟩ := own_cells8 hO2
    have HB : Hid (Below w.heap.size w wE) := HT.out.2.2.2.2.2.2.trans (hE.below HT.out.2.2.2.2.2.2.size fun i hi e => by have := HT.out.2.2.2.2.1; have := HT.out.2.2.2.2.2.1; omega)
    have HK : Hid (takeReq b = bd (nx (pBytes (lenS (nx pWord (nx pKind (.ok b))))) (nx pWord (nx pKind (.ok b)))) fun l => done ((⟨1, tok, 0, [], y, [], 0, 0⟩ : Req), l)) := by
      unfold takeReq pReq
      rw [(nx_seq pKind _ (.ok b) _ HV0.out).2, (nx_seq pWord _ _ tok HVt.out).2, pRest_1]
      rw [whole_eq _ _ (fun y => (⟨1, tok, 0, [], y, [], 0, 0⟩ : Req)) HV1.out, bd_bd]
      rfl
    have HO2 := Lib.hid hO2
    have HF := Lib.hid (fin_cases _ HT.out.1.err (⟨1, tok, 0, [], y, [], 0, 0⟩ : Req))
    rw [← HK.out] at HF
    clear HK hO hO2 hE
    generalize endS (nx (pBytes (lenS (nx pWord (nx pKind (.ok b))))) (nx pWord (nx pKind (.ok b)))) = ee at *
    rcases HF.out with ⟨rfl, hf1, hf2⟩ | ⟨hf0, hf1, hf2⟩
    · have HF1 := Lib.hid (And.intro hf1 hf2)
      clear hf1 hf2 HF
      go_wp2
      have hW := own_put8 HO2.out (.int .i64 1) (.int .u64 tok) (.int .u64 0) (.string ⟨#[]⟩) (.slice B len d) (.slice none 0 0) (.int .u64 0) (.int .u64 0)
      have hC := (chg8 wE g2 #[.int .i64 1, .int .u64 tok, .int .u64 0, .string ⟨#[]⟩, .slice B len d, .slice none 0 0, .int .u64 0, .int .u64 0])
      show bodyPost _ _ _ _ _ (put8 wE g2 #[.int .i64 1, .int .u64 tok, .int .u64 0, .string ⟨#[]⟩, .slice B len d, .slice none 0 0, .int .u64 0, .int .u64 0])
      generalize put8 wE g2 #[.int .i64 1, .int .u64 tok, .int .u64 0, .string ⟨#[]⟩, .slice B len d, .slice none 0 0, .int .u64 0, .int .u64 0] = W at *
      clear c0 c1 c2 c3 c4 c5 c6 c7 f0 f1 f2 f3 f4 f5 f6 f7 r0 r1 r2 r3 r4 r5 r6 r7 s0 s1 s2 s3 s4 s5 s6 s7
      obtain ⟨k0, k1, k2, k3, k4, k5, k6, k7, -, -, -, -, -, -, -, -⟩ := own_cells8 hW
      refine bodyPost_ret (by simp [results, Try.results15, go_sem, k0, k1, k2, k3, k4, k5, k6, k7]; try rfl) rfl ?_
      obtain ⟨hf1, hf2⟩ := HF1.out
      refine ⟨_, by rw [hf1], ⟨B, d, none, 0, by rw [hf2]; simp only []; rw [HLEN.out]; rfl, by rw [hf2]; exact (HL.out.1.chg hC (fun k _ hk e => by have := HT.out.2.2.2.1; have := HT.out.2.2.2.2.1; omega)).mono (fun k _ hk => by have := HT.out.2.2.2.1; have := HT.out.2.2.2.2.1; have := HT.out.2.2.2.2.2.1; omega), by rw [hf2]; simp only []; rw [HLEN.out]; exact HL.out.2.1, HL.out.2.2, by rw [hf2]; exact RdU.nil _ _ _, by rw [hf2]; exact Nat.zero_le _, Nat.zero_le _, by rw [hf2]; exact ok_mk (by omega) (by omega) t0 t1 (by omega) (by omega) IsBytes.nil (by omega) (by omega) (by omega) (by omega)⟩, HB.out.trans (hC.below HB.out.size fun i hi e => by have := HT.out.2.2.2.2.2.1; omega)⟩
    · have HF1 := Lib.hid (And.intro hf1 hf2)
      have hf3 : (ee != 0) = true := by simpa using hf0
      clear hf1 hf2 HF hf0
      go_wp2
      have hW := own_put8 HO2.out (.int .i64 0) (.int .u64 0) (.int .u64 0) (.string ⟨#[]⟩) (.slice none 0 0) (.slice none 0 0) (.int .u64 0) (.int .u64 0)
      have hC := chg8 wE g2 #[.int .i64 0, .int .u64 0, .int .u64 0, .string ⟨#[]⟩, .slice none 0 0, .slice none 0 0, .int .u64 0, .int .u64 0]
      show bodyPost _ _ _ _ _ (put8 wE g2 #[.int .i64 0, .int .u64 0, .int .u64 0, .string ⟨#[]⟩, .slice none 0 0, .slice none 0 0, .int .u64 0, .int .u64 0])
      generalize put8 wE g2 #[.int .i64 0, .int .u64 0, .int .u64 0, .string ⟨#[]⟩, .slice none 0 0, .slice none 0 0, .int .u64 0, .int .u64 0] = W at *
      clear c0 c1 c2 c3 c4 c5 c6 c7 f0 f1 f2 f3 f4 f5 f6 f7 r0 r1 r2 r3 r4 r5 r6 r7 s0 s1 s2 s3 s4 s5 s6 s7
      obtain ⟨k0, k1, k2, k3, k4, k5, k6, k7, -, -, -, -, -, -, -, -⟩ := own_cells8 hW
      refine bodyPost_ret (by simp [results, Try.results15, go_sem, k0, k1, k2, k3, k4, k5, k6, k7]; try rfl) rfl ?_
      obtain ⟨hf1, hf2⟩ := HF1.out
      refine ⟨_, by rw [hf1], by rw [hf2]; exact zreq_v _ _, HB.out.trans (hC.below HB.out.size fun i hi e => by have := HT.out.2.2.2.2.2.1; omega)⟩
  · -- kind 2
    go_wp2_with fail
    refine (rU64_any g4 _ _ _ _ HT.out.1).mono ?_
    rintro e w4 ⟨hh, rfl, p1, q1, h2, h3, h4⟩
    have hT := HT.out.step h2 h4
    clear c0 c1 c2 c3 c4 c5 c6 c7 f0 f1 f2 f3 f4 f5 f6 f7
    obtain ⟨c0, c1, c2, c3, c4, c5, c6, c7, f0, f1, f2, f3, f4, f5, f6, f7⟩ := own_cells8 hT.2.1
    have HT := Lib.hid (hT.set 2 (.int .u64 hh))
    have HV1 := Lib.hid h3
    clear h2 h3 h4 hT
    go_wp2_with fail
    refine (sname_any g4 _ _ _ _ HT.out.1).mono ?_
    rintro e w5 ⟨nm, rfl, p2, h2, h3, h4, q2⟩
    have hT := HT.out.step h2 h4
    clear c0 c1 c2 c3 c4 c5 c6 c7 f0 f1 f2 f3 f4 f5 f6 f7
    obtain ⟨c0, c1, c2, c3, c4, c5, c6, c7, f0, f1, f2, f3, f4, f5, f6, f7⟩ := own_cells8 hT.2.1
    have HT := Lib.hid (hT.set 3 (.string (strOfNums nm)))
    have HV2 := Lib.hid h3
    clear h2 h3 h4 hT
    go_wp2_with fail
    refine (rend_any g4 _ _ _ _ HT.out.1).mono ?_
    rintro e wE ⟨rfl, hE⟩
    clear c0 c1 c2 c3 c4 c5 c6 c7 f0 f1 f2 f3 f4 f5 f6 f7
    have hO := HT.out.2.1.chg hE (by have := HT.out.2.2.2.1; omega)
    obtain ⟨c0, c1, c2, c3, c4, c5, c6, c7, f0, f1, f2, f3, f4, f5, f6, f7⟩ := own_cells8 hO
    have hO2 := HT.out.2.2.1.chg hE (by have := HT.out.2.2.2.2.1; omega)
    obtain ⟨r0, r1, r2, r3, r4, r5, r6, r7, s0, s1, s2, s3, s4, s5, s6, s7⟩ := own_cells8 hO2
    have HB : Hid (Below w.heap.size w wE) := HT.out.2.2.2.2.2.2.trans (hE.below HT.out.2.2.2.2.2.2.size fun i hi e => by have := HT.out.2.2.2.2.1; have := HT.out.2.2.2.2.2.1; omega)
    have HK : Hid (takeReq b = bd (nx (pName 32) (nx (pU 64) (nx pWord (nx pKind (.ok b))))) fun l => done ((⟨2, tok, hh, nm, [], [], 0, 0⟩ : Req), l)) := by
      unfold takeReq pReq
      rw [(nx_seq pKind _ (.ok b) _ HV0.out).2, (nx_seq pWord _ _ tok HVt.out).2, pRest_2]
      rw [(nx_seq (pU 64) _ _ hh HV1.out).2]
      rw [(nx_seq (pName 32) _ _ nm HV2.out).2]
      rw [bd_bd]
      rfl
    have HO2 := Lib.hid hO2
    have HF := Lib.hid (fin_cases _ HT.out.1.err (⟨2, tok, hh, nm, [], [], 0, 0⟩ : Req))
    rw [← HK.out] at HF
    clear HK hO hO2 hE
    generalize endS (nx (pName 32) (nx (pU 64) (nx pWord (nx pKind (.ok b))))) = ee at *
    rcases HF.out with ⟨rfl, hf1, hf2⟩ | ⟨hf0, hf1, hf2⟩
    · have HF1 := Lib.hid (And.intro hf1 hf2)
      clear hf1 hf2 HF
      go_wp2
      have hW := own_put8 HO2.out (.int .i64 2) (.int .u64 tok) (.int .u64 hh) (.string (strOfNums nm)) (.slice none 0 0) (.slice none 0 0) (.int .u64 0) (.int .u64 0)
      have hC := (chg8 wE g2 #[.int .i64 2, .int .u64 tok, .int .u64 hh, .string (strOfNums nm), .slice none 0 0, .slice none 0 0, .int .u64 0, .int .u64 0])
      show bodyPost _ _ _ _ _ (put8 wE g2 #[.int .i64 2, .int .u64 tok, .int .u64 hh, .string (strOfNums nm), .slice none 0 0, .slice none 0 0, .int .u64 0, .int .u64 0])
      generalize put8 wE g2 #[.int .i64 2, .int .u64 tok, .int .u64 hh, .string (strOfNums nm), .slice none 0 0, .slice none 0 0, .int .u64 0, .int .u64 0] = W at *
      clear c0 c1 c2 c3 c4 c5 c6 c7 f0 f1 f2 f3 f4 f5 f6 f7 r0 r1 r2 r3 r4 r5 r6 r7 s0 s1 s2 s3 s4 s5 s6 s7
      obtain ⟨k0, k1, k2, k3, k4, k5, k6, k7, -, -, -, -, -, -, -, -⟩ := own_cells8 hW
      refine bodyPost_ret (by simp [results, Try.results15, go_sem, k0, k1, k2, k3, k4, k5, k6, k7]; try rfl) rfl ?_
      obtain ⟨hf1, hf2⟩ := HF1.out
      refine ⟨_, by rw [hf1], ⟨none, 0, none, 0, by rw [hf2]; rfl, by rw [hf2]; exact RdX.nil _ _ _, by rw [hf2]; exact Nat.zero_le _, Nat.zero_le _, by rw [hf2]; exact RdU.nil _ _ _, by rw [hf2]; exact Nat.zero_le _, Nat.zero_le _, by rw [hf2]; exact ok_mk (by omega) (by omega) t0 t1 p1 q1 p2 (by omega) (by omega) (by omega) (by omega)⟩, HB.out.trans (hC.below HB.out.size fun i hi e => by have := HT.out.2.2.2.2.2.1; omega)⟩
    · have HF1 := Lib.hid (And.intro hf1 hf2)
      have hf3 : (ee != 0) = true := by simpa using hf0
      clear hf1 hf2 HF hf0
      go_wp2
      have hW := own_put8 HO2.out (.int .i64 0) (.int .u64 0) (.int .u64 0) (.string ⟨#[]⟩) (.slice none 0 0) (.slice none 0 0) (.int .u64 0) (.int .u64 0)
      have hC := chg8 wE g2 #[.int .i64 0, .int .u64 0, .int .u64 0, .string ⟨#[]⟩, .slice none 0 0, .slice none 0 0, .int .u64 0, .int .u64 0]
      show bodyPost _ _ _ _ _ (put8 wE g2 #[.int .i64 0, .int .u64 0, .int .u64 0, .string ⟨#[]⟩, .slice none 0 0, .slice none 0 0, .int .u64 0, .int .u64 0])
      generalize put8 wE g2 #[.int .i64 0, .int .u64 0, .int .u64 0, .string ⟨#[]⟩, .slice none 0 0, .slice none 0 0, .int .u64 0, .int .u64 0] = W at *
      clear c0 c1 c2 c3 c4 c5 c6 c7 f0 f1 f2 f3 f4 f5 f6 f7 r0 r1 r2 r3 r4 r5 r6 r7 s0 s1 s2 s3 s4 s5 s6 s7
      obtain ⟨k0, k1, k2, k3, k4, k5, k6, k7, -, -, -, -, -, -, -, -⟩ := own_cells8 hW
      refine bodyPost_ret (by simp [results, Try.results15, go_sem, k0, k1, k2, k3, k4, k5, k6, k7]; try rfl) rfl ?_
      obtain ⟨hf1, hf2⟩ := HF1.out
      refine ⟨_, by rw [hf1], by rw [hf2]; exact zreq_v _ _, HB.out.trans (hC.below HB.out.size fun i hi e => by have := HT.out.2.2.2.2.2.1; omega)⟩
  · -- kind 3
    go_wp2_with fail
    refine (sname_any g4 _ _ _ _ HT.out.1).mono ?_
    rintro e w4 ⟨nm, rfl, p1, h2, h3, h4, q1⟩
    have hT := HT.out.step h2 h4
    clear c0 c1 c2 c3 c4 c5 c6 c7 f0 f1 f2 f3 f4 f5 f6 f7
    obtain ⟨c0, c1, c2, c3, c4, c5, c6, c7, f0, f1, f2, f3, f4, f5, f6, f7⟩ := own_cells8 hT.2.1
    have HT := Lib.hid (hT.set 3 (.string (strOfNums nm)))
    have HV1 := Lib.hid h3
    clear h2 h3 h4 hT
    go_wp2_with fail
    refine (rend_any g4 _ _ _ _ HT.out.1).mono ?_
    rintro e wE ⟨rfl, hE⟩
    clear c0 c1 c2 c3 c4 c5 c6 c7 f0 f1 f2 f3 f4 f5 f6 f7
    have hO := HT.out.2.1.chg hE (by have := HT.out.2.2.2.1; omega)
    obtain ⟨c0, c1, c2, c3, c4, c5, c6, c7, f0, f1, f2, f3, f4, f5, f6, f7⟩ := own_cells8 hO
    have hO2 := HT.out.2.2.1.chg hE (by have := HT.out.2.2.2.2.1; omega)
    obtain ⟨r0, r1, r2, r3, r4, r5, r6, r7, s0, s1, s2, s3, s4, s5, s6, s7⟩ := own_cells8 hO2
    have HB : Hid (Below w.heap.size w wE) := HT.out.2.2.2.2.2.2.trans (hE.below HT.out.2.2.2.2.2.2.size fun i hi e => by have := HT.out.2.2.2.2.1; have := HT.out.2.2.2.2.2.1; omega)
    have HK : Hid (takeReq b = bd (nx (pName 32) (nx pWord (nx pKind (.ok b)))) fun l => done ((⟨3, tok, 0, nm, [], [], 0, 0⟩ : Req), l)) := by
      unfold takeReq pReq
      rw [(nx_seq pKind _ (.ok b) _ HV0.out).2, (nx_seq pWord _ _ tok HVt.out).2, pRest_3]
      rw [(nx_seq (pName 32) _ _ nm HV1.out).2]
      rw [bd_bd]
      rfl
    have HO2 := Lib.hid hO2
    have HF := Lib.hid (fin_cases _ HT.out.1.err (⟨3, tok, 0, nm, [], [], 0, 0⟩ : Req))
    rw [← HK.out] at HF
    clear HK hO hO2 hE
    generalize endS (nx (pName 32) (nx pWord (nx pKind (.ok b)))) = ee at *
    rcases HF.out with ⟨rfl, hf1, hf2⟩ | ⟨hf0, hf1, hf2⟩
    · have HF1 := Lib.hid (And.intro hf1 hf2)
      clear hf1 hf2 HF
      go_wp2
      have hW := own_put8 HO2.out (.int .i64 3) (.int .u64 tok) (.int .u64 0) (.string (strOfNums nm)) (.slice none 0 0) (.slice none 0 0) (.int .u64 0) (.int .u64 0)
      have hC := (chg8 wE g2 #[.int .i64 3, .int .u64 tok, .int .u64 0, .string (strOfNums nm), .slice none 0 0, .slice none 0 0, .int .u64 0, .int .u64 0])
      show bodyPost _ _ _ _ _ (put8 wE g2 #[.int .i64 3, .int .u64 tok, .int .u64 0, .string (strOfNums nm), .slice none 0 0, .slice none 0 0, .int .u64 0, .int .u64 0])
      generalize put8 wE g2 #[.int .i64 3, .int .u64 tok, .int .u64 0, .string (strOfNums nm), .slice none 0 0, .slice none 0 0, .int .u64 0, .int .u64 0] = W at *
      clear c0 c1 c2 c3 c4 c5 c6 c7 f0 f1 f2 f3 f4 f5 f6 f7 r0 r1 r2 r3 r4 r5 r6 r7 s0 s1 s2 s3 s4 s5 s6 s7
      obtain ⟨k0, k1, k2, k3, k4, k5, k6, k7, -, -, -, -, -, -, -, -⟩ := own_cells8 hW
      refine bodyPost_ret (by simp [results, Try.results15, go_sem, k0, k1, k2, k3, k4, k5, k6, k7]; try rfl) rfl ?_
      obtain ⟨hf1, hf2⟩ := HF1.out
      refine ⟨_, by rw [hf1], ⟨none, 0, none, 0, by rw [hf2]; rfl, by rw [hf2]; exact RdX.nil _ _ _, by rw [hf2]; exact Nat.zero_le _, Nat.zero_le _, by rw [hf2]; exact RdU.nil _ _ _, by rw [hf2]; exact Nat.zero_le _, Nat.zero_le _, by rw [hf2]; exact ok_mk (by omega) (by omega) t0 t1 (by omega) (by omega) p1 (by omega) (by omega) (by omega) (by omega)⟩, HB.out.trans (hC.below HB.out.size fun i hi e => by have := HT.out.2.2.2.2.2.1; omega)⟩
    · have HF1 := Lib.hid (And.intro hf1 hf2)
      have hf3 : (ee != 0) = true := by simpa using hf0
      clear hf1 hf2 HF hf0
      go_wp2
      have hW := own_put8 HO2.out (.int .i64 0) (.int .u64 0) (.int .u64 0) (.string ⟨#[]⟩) (.slice none 0 0) (.slice none 0 0) (.int .u64 0) (.int .u64 0)
      have hC := chg8 wE g2 #[.int .i64 0, .int .u64 0, .int .u64 0, .string ⟨#[]⟩, .slice none 0 0, .slice none 0 0, .int .u64 0, .int .u64 0]
      show bodyPost _ _ _ _ _ (put8 wE g2 #[.int .i64 0, .int .u64 0, .int .u64 0, .string ⟨#[]⟩, .slice none 0 0, .slice none 0 0, .int .u64 0, .int .u64 0])
      generalize put8 wE g2 #[.int .i64 0, .int .u64 0, .int .u64 0, .string ⟨#[]⟩, .slice none 0 0, .slice none 0 0, .int .u64 0, .int .u64 0] = W at *
      clear c0 c1 c2 c3 c4 c5 c6 c7 f0 f1 f2 f3 f4 f5 f6 f7 r0 r1 r2 r3 r4 r5 r6 r7 s0 s1 s2 s3 s4 s5 s6 s7
      obtain ⟨k0, k1, k2, k3, k4, k5, k6, k7, -, -, -, -, -, -, -, -⟩ := own_cells8 hW
      refine bodyPost_ret (by simp [results, Try.results15, go_sem, k0, k1, k2, k3, k4, k5, k6, k7]; try rfl) rfl ?_
      obtain ⟨hf1, hf2⟩ := HF1.out
      refine ⟨_, by rw [hf1], by rw [hf2]; exact zreq_v _ _, HB.out.trans (hC.below HB.out.size fun i hi e => by have := HT.out.2.2.2.2.2.1; omega)⟩
  · -- kind 4
    go_wp2_with fail
    refine (rU64_any g4 _ _ _ _ HT.out.1).mono ?_
    rintro e w4 ⟨hh, rfl, p1, q1, h2, h3, h4⟩
    have hT := HT.out.step h2 h4
    clear c0 c1 c2 c3 c4 c5 c6 c7 f0 f1 f2 f3 f4 f5 f6 f7
    obtain ⟨c0, c1, c2, c3, c4, c5, c6, c7, f0, f1, f2, f3, f4, f5, f6, f7⟩ := own_cells8 hT.2.1
    have HT := Lib.hid (hT.set 2 (.int .u64 hh))
    have HV1 := Lib.hid h3
    clear h2 h3 h4 hT
    go_wp2_with fail
    refine (sname_any g4 _ _ _ _ HT.out.1).mono ?_
    rintro e w5 ⟨nm, rfl, p2, h2, h3, h4, q2⟩
    have hT := HT.out.step h2 h4
    clear c0 c1 c2 c3 c4 c5 c6 c7 f0 f1 f2 f3 f4 f5 f6 f7
    obtain ⟨c0, c1, c2, c3, c4, c5, c6, c7, f0, f1, f2, f3, f4, f5, f6, f7⟩ := own_cells8 hT.2.1
    have HT := Lib.hid (hT.set 3 (.string (strOfNums nm)))
    have HV2 := Lib.hid h3
    clear h2 h3 h4 hT
    go_wp2_with fail
    refine (slist_any g4 _ _ _ _ HT.out.1).mono ?_
    rintro e w6 ⟨v3, xs, rfl, ho, p3, h2, h3, h4, q3⟩
    obtain ⟨B, d, rfl, hd1, hd2, hr⟩ := ho.rdU p3
    have HL := Lib.hid (And.intro (Tk.farU HT.out ho hr) (And.intro hd1 hd2))
    clear ho hr hd1 hd2
    generalize hlen : xs.length = len at *
    have HLEN := Lib.hid hlen
    clear hlen
    have hT := HT.out.step h2 h4
    clear c0 c1 c2 c3 c4 c5 c6 c7 f0 f1 f2 f3 f4 f5 f6 f7
    obtain ⟨c0, c1, c2, c3, c4, c5, c6, c7, f0, f1, f2, f3, f4, f5, f6, f7⟩ := own_cells8 hT.2.1
    have HT := Lib.hid (hT.set 5 (.slice B len d))
    have HV3 := Lib.hid h3
    clear h2 h3 h4 hT
    have HL := Lib.hid (And.intro (HL.out.1.chg (chgSet w6 g5 5 (.slice B len d)) (fun k _ hk e => by omega)) HL.out.2)
    go_wp2_with fail
    refine (rU64_any g4 _ _ _ _ HT.out.1).mono ?_
    rintro e w7 ⟨ti, rfl, p4, q4, h2, h3, h4⟩
    have HL := Lib.hid (And.intro (HL.out.1.chg h4 (fun k _ hk e => by have := HT.out.2.2.2.1; omega)) HL.out.2)
    have hT := HT.out.step h2 h4
    clear c0 c1 c2 c3 c4 c5 c6 c7 f0 f1 f2 f3 f4 f5 f6 f7
    obtain ⟨c0, c1, c2, c3, c4, c5, c6, c7, f0, f1, f2, f3, f4, f5, f6, f7⟩ := own_cells8 hT.2.1
    have HT := Lib.hid (hT.set 6 (.int .u64 ti))
    have HV4 := Lib.hid h3
    clear h2 h3 h4 hT
    have HL := Lib.hid (And.intro (HL.out.1.chg (chgSet w7 g5 6 (.int .u64 ti)) (fun k _ hk e => by omega)) HL.out.2)
    go_wp2_with fail
    refine (rend_any g4 _ _ _ _ HT.out.1).mono ?_
    rintro e wE ⟨rfl, hE⟩
    have HL := Lib.hid (And.intro (HL.out.1.chg hE (fun k _ hk e => by have := HT.out.2.2.2.1; omega)) HL.out.2)
    clear c0 c1 c2 c3 c4 c5 c6 c7 f0 f1 f2 f3 f4 f5 f6 f7
    have hO := HT.out.2.1.chg hE (by have := HT.out.2.2.2.1; omega)
    obtain ⟨c0, c1, c2, c3, c4, c5, c6, c7, f0, f1, f2, f3, f4, f5, f6, f7⟩ := own_cells8 hO
    have hO2 := HT.out.2.2.1.chg hE (by have := HT.out.2.2.2.2.1; omega)
    obtain ⟨r0, r1, r2, r3, r4, r5, r6, r7, s0, s1, s2, s3, s4, s5, s6, s7⟩ := own_cells8 hO2
    have HB : Hid (Below w.heap.size w wE) := HT.out.2.2.2.2.2.2.trans (hE.below HT.out.2.2.2.2.2.2.size fun i hi e => by have := HT.out.2.2.2.2.1; have := HT.out.2.2.2.2.2.1; omega)
    have HK : Hid (takeReq b = bd (nx (pU 64) (nx (pList 8) (nx (pName 32) (nx (pU 64) (nx pWord (nx pKind (.ok b))))))) fun l => done ((⟨4, tok, hh, nm, [], xs, ti, 0⟩ : Req), l)) := by
      unfold takeReq pReq
      rw [(nx_seq pKind _ (.ok b) _ HV0.out).2, (nx_seq pWord _ _ tok HVt.out).2, pRest_4]
      rw [(nx_seq (pU 64) _ _ hh HV1.out).2]
      rw [(nx_seq (pName 32) _ _ nm HV2.out).2]
      rw [(nx_seq (pList 8) _ _ xs HV3.out).2]
      rw [(nx_seq (pU 64) _ _ ti HV4.out).2]
      rw [bd_bd]
      rfl
    have HO2 := Lib.hid hO2
    have HF := Lib.hid (fin_cases _ HT.out.1.err (⟨4, tok, hh, nm, [], xs, ti, 0⟩ : Req))
    rw [← HK.out] at HF
    clear HK hO hO2 hE
    generalize endS (nx (pU 64) (nx (pList 8) (nx (pName 32) (nx (pU 64) (nx pWord (nx pKind (.ok b))))))) = ee at *
    rcases HF.out with ⟨rfl, hf1, hf2⟩ | ⟨hf0, hf1, hf2⟩
    · have HF1 := Lib.hid (And.intro hf1 hf2)
      clear hf1 hf2 HF
      go_wp2
      have hW := own_put8 HO2.out (.int .i64 4) (.int .u64 tok) (.int .u64 hh) (.string (strOfNums nm)) (.slice none 0 0) (.slice B len d) (.int .u64 ti) (.int .u64 0)
      have hC := (chg8 wE g2 #[.int .i64 4, .int .u64 tok, .int .u64 hh, .string (strOfNums nm), .slice none 0 0, .slice B len d, .int .u64 ti, .int .u64 0])
      show bodyPost _ _ _ _ _ (put8 wE g2 #[.int .i64 4, .int .u64 tok, .int .u64 hh, .string (strOfNums nm), .slice none 0 0, .slice B len d, .int .u64 ti, .int .u64 0])
      generalize put8 wE g2 #[.int .i64 4, .int .u64 tok, .int .u64 hh, .string (strOfNums nm), .slice none 0 0, .slice B len d, .int .u64 ti, .int .u64 0] = W at *
      clear c0 c1 c2 c3 c4 c5 c6 c7 f0 f1 f2 f3 f4 f5 f6 f7 r0 r1 r2 r3 r4 r5 r6 r7 s0 s1 s2 s3 s4 s5 s6 s7
      obtain ⟨k0, k1, k2, k3, k4, k5, k6, k7, -, -, -, -, -, -, -, -⟩ := own_cells8 hW
      refine bodyPost_ret (by simp [results, Try.results15, go_sem, k0, k1, k2, k3, k4, k5, k6, k7]; try rfl) rfl ?_
      obtain ⟨hf1, hf2⟩ := HF1.out
      refine ⟨_, by rw [hf1], ⟨none, 0, B, d, by rw [hf2]; simp only []; rw [HLEN.out]; rfl, by rw [hf2]; exact RdX.nil _ _ _, by rw [hf2]; exact Nat.zero_le _, Nat.zero_le _, by rw [hf2]; exact (HL.out.1.chg hC (fun k _ hk e => by have := HT.out.2.2.2.1; have := HT.out.2.2.2.2.1; omega)).mono (fun k _ hk => by have := HT.out.2.2.2.1; have := HT.out.2.2.2.2.1; have := HT.out.2.2.2.2.2.1; omega), by rw [hf2]; simp only []; rw [HLEN.out]; exact HL.out.2.1, HL.out.2.2, by rw [hf2]; exact ok_mk (by omega) (by omega) t0 t1 p1 q1 p2 p4 q4 (by omega) (by omega)⟩, HB.out.trans (hC.below HB.out.size fun i hi e => by have := HT.out.2.2.2.2.2.1; omega)⟩
    · have HF1 := Lib.hid (And.intro hf1 hf2)
      have hf3 : (ee != 0) = true := by simpa using hf0
      clear hf1 hf2 HF hf0
      go_wp2
      have hW := own_put8 HO2.out (.int .i64 0) (.int .u64 0) (.int .u64 0) (.string ⟨#[]⟩) (.slice none 0 0) (.slice none 0 0) (.int .u64 0) (.int .u64 0)
      have hC := chg8 wE g2 #[.int .i64 0, .int .u64 0, .int .u64 0, .string ⟨#[]⟩, .slice none 0 0, .slice none 0 0, .int .u64 0, .int .u64 0]
      show bodyPost _ _ _ _ _ (put8 wE g2 #[.int .i64 0, .int .u64 0, .int .u64 0, .string ⟨#[]⟩, .slice none 0 0, .slice none 0 0, .int .u64 0, .int .u64 0])
      generalize put8 wE g2 #[.int .i64 0, .int .u64 0, .int .u64 0, .string ⟨#[]⟩, .slice none 0 0, .slice none 0 0, .int .u64 0, .int .u64 0] = W at *
      clear c0 c1 c2 c3 c4 c5 c6 c7 f0 f1 f2 f3 f4 f5 f6 f7 r0 r1 r2 r3 r4 r5 r6 r7 s0 s1 s2 s3 s4 s5 s6 s7
      obtain ⟨k0, k1, k2, k3, k4, k5, k6, k7, -, -, -, -, -, -, -, -⟩ := own_cells8 hW
      refine bodyPost_ret (by simp [results, Try.results15, go_sem, k0, k1, k2, k3, k4, k5, k6, k7]; try rfl) rfl ?_
      obtain ⟨hf1, hf2⟩ := HF1.out
      refine ⟨_, by rw [hf1], by rw [hf2]; exact zreq_v _ _, HB.out.trans (hC.below HB.out.size fun i hi e => by have := HT.out.2.2.2.2.2.1; omega)⟩
  · -- kind 5
    go_wp2_with fail
    refine (rU64_any g4 _ _ _ _ HT.out.1).mono ?_
    rintro e w4 ⟨hh, rfl, p1, q1, h2, h3, h4⟩
    have hT := HT.out.step h2 h4
    clear c0 c1 c2 c3 c4 c5 c6 c7 f0 f1 f2 f3 f4 f5 f6 f7
    obtain ⟨c0, c1, c2, c3, c4, c5, c6, c7, f0, f1, f2, f3, f4, f5, f6, f7⟩ := own_cells8 hT.2.1
    have HT := Lib.hid (hT.set 2 (.int .u64 hh))
    have HV1 := Lib.hid h3
    clear h2 h3 h4 hT
    go_wp2_with fail
    refine (rend_any g4 _ _ _ _ HT.out.1).mono ?_
    rintro e wE ⟨rfl, hE⟩
    clear c0 c1 c2 c3 c4 c5 c6 c7 f0 f1 f2 f3 f4 f5 f6 f7
    have hO := HT.out.2.1.chg hE (by have := HT.out.2.2.2.1; omega)
    obtain ⟨c0, c1, c2, c3, c4, c5, c6, c7, f0, f1, f2, f3, f4, f5, f6, f7⟩ := own_cells8 hO
    have hO2 := HT.out.2.2.1.chg hE (by have := HT.out.2.2.2.2.1; omega)
    obtain ⟨r0, r1, r2, r3, r4, r5, r6, r7, s0, s1, s2, s3, s4, s5, s6, s7⟩ := own_cells8 hO2
    have HB : Hid (Below w.heap.size w wE) := HT.out.2.2.2.2.2.2.trans (hE.below HT.out.2.2.2.2.2.2.size fun i hi e => by have := HT.out.2.2.2.2.1; have := HT.out.2.2.2.2.2.1; omega)
    have HK : Hid (takeReq b = bd (nx (pU 64) (nx pWord (nx pKind (.ok b)))) fun l => done ((⟨5, tok, hh, [], [], [], 0, 0⟩ : Req), l)) := by
      unfold takeReq pReq
      rw [(nx_seq pKind _ (.ok b) _ HV0.out).2, (nx_seq pWord _ _ tok HVt.out).2, pRest_5]
      rw [(nx_seq (pU 64) _ _ hh HV1.out).2]
      rw [bd_bd]
      rfl
    have HO2 := Lib.hid hO2
    have HF := Lib.hid (fin_cases _ HT.out.1.err (⟨5, tok, hh, [], [], [], 0, 0⟩ : Req))
    rw [← HK.out] at HF
    clear HK hO hO2 hE
    generalize endS (nx (pU 64) (nx pWord (nx pKind (.ok b)))) = ee at *
    rcases HF.out with ⟨rfl, hf1, hf2⟩ | ⟨hf0, hf1, hf2⟩
    · have HF1 := Lib.hid (And.intro hf1 hf2)
      clear hf1 hf2 HF
      go_wp2
      have hW := own_put8 HO2.out (.int .i64 5) (.int .u64 tok) (.int .u64 hh) (.string ⟨#[]⟩) (.slice none 0 0) (.slice none 0 0) (.int .u64 0) (.int .u64 0)
      have hC := (chg8 wE g2 #[.int .i64 5, .int .u64 tok, .int .u64 hh, .string ⟨#[]⟩, .slice none 0 0, .slice none 0 0, .int .u64 0, .int .u64 0])
      show bodyPost _ _ _ _ _ (put8 wE g2 #[.int .i64 5, .int .u64 tok, .int .u64 hh, .string ⟨#[]⟩, .slice none 0 0, .slice none 0 0, .int .u64 0, .int .u64 0])
      generalize put8 wE g2 #[.int .i64 5, .int .u64 tok, .int .u64 hh, .string ⟨#[]⟩, .slice none 0 0, .slice none 0 0, .int .u64 0, .int .u64 0] = W at *
      clear c0 c1 c2 c3 c4 c5 c6 c7 f0 f1 f2 f3 f4 f5 f6 f7 r0 r1 r2 r3 r4 r5 r6 r7 s0 s1 s2 s3 s4 s5 s6 s7
      obtain ⟨k0, k1, k2, k3, k4, k5, k6, k7, -, -, -, -, -, -, -, -⟩ := own_cells8 hW
      refine bodyPost_ret (by simp [results, Try.results15, go_sem, k0, k1, k2, k3, k4, k5, k6, k7]; try rfl) rfl ?_
      obtain ⟨hf1, hf2⟩ := HF1.out
      refine ⟨_, by rw [hf1], ⟨none, 0, none, 0, by rw [hf2]; rfl, by rw [hf2]; exact RdX.nil _ _ _, by rw [hf2]; exact Nat.zero_le _, Nat.zero_le _, by rw [hf2]; exact RdU.nil _ _ _, by rw [hf2]; exact Nat.zero_le _, Nat.zero_le _, by rw [hf2]; exact ok_mk (by omega) (by omega) t0 t1 p1 q1 IsBytes.nil (by omega) (by omega) (by omega) (by omega)⟩, HB.out.trans (hC.below HB.out.size fun i hi e => by have := HT.out.2.2.2.2.2.1; omega)⟩
    · have HF1 := Lib.hid (And.intro hf1 hf2)
      have hf3 : (ee != 0) = true := by simpa using hf0
      clear hf1 hf2 HF hf0
      go_wp2
      have hW := own_put8 HO2.out (.int .i64 0) (.int .u64 0) (.int .u64 0) (.string ⟨#[]⟩) (.slice none 0 0) (.slice none 0 0) (.int .u64 0) (.int .u64 0)
      have hC := chg8 wE g2 #[.int .i64 0, .int .u64 0, .int .u64 0, .string ⟨#[]⟩, .slice none 0 0, .slice none 0 0, .int .u64 0, .int .u64 0]
      show bodyPost _ _ _ _ _ (put8 wE g2 #[.int .i64 0, .int .u64 0, .int .u64 0, .string ⟨#[]⟩, .slice none 0 0, .slice none 0 0, .int .u64 0, .int .u64 0])
      generalize put8 wE g2 #[.int .i64 0, .int .u64 0, .int .u64 0, .string ⟨#[]⟩, .slice none 0 0, .slice none 0 0, .int .u64 0, .int .u64 0] = W at *
      clear c0 c1 c2 c3 c4 c5 c6 c7 f0 f1 f2 f3 f4 f5 f6 f7 r0 r1 r2 r3 r4 r5 r6 r7 s0 s1 s2 s3 s4 s5 s6 s7
      obtain ⟨k0, k1, k2, k3, k4, k5, k6, k7, -, -, -, -, -, -, -, -⟩ := own_cells8 hW
      refine bodyPost_ret (by simp [results, Try.results15, go_sem, k0, k1, k2, k3, k4, k5, k6, k7]; try rfl) rfl ?_
      obtain ⟨hf1, hf2⟩ := HF1.out
      refine ⟨_, by rw [hf1], by rw [hf2]; exact zreq_v _ _, HB.out.trans (hC.below HB.out.size fun i hi e => by have := HT.out.2.2.2.2.2.1; omega)⟩
  · -- kind 6
    go_wp2_with fail
    refine (sword_any g4 _ _ _ _ HT.out.1).mono ?_
    rintro e w4 ⟨oo, rfl, p1, q1, h2, h3, h4⟩
    have hT := HT.out.step h2 h4
    clear c0 c1 c2 c3 c4 c5 c6 c7 f0 f1 f2 f3 f4 f5 f6 f7
    obtain ⟨c0, c1, c2, c3, c4, c5, c6, c7, f0, f1, f2, f3, f4, f5, f6, f7⟩ := own_cells8 hT.2.1
    have HT := Lib.hid (hT.set 7 (.int .u64 oo))
    have HV1 := Lib.hid h3
    clear h2 h3 h4 hT
    go_wp2_with fail
    refine (rend_any g4 _ _ _ _ HT.out.1).mono ?_
    rintro e wE ⟨rfl, hE⟩
    clear c0 c1 c2 c3 c4 c5 c6 c7 f0 f1 f2 f3 f4 f5 f6 f7
    have hO := HT.out.2.1.chg hE (by have := HT.out.2.2.2.1; omega)
    obtain ⟨c0, c1, c2, c3, c4, c5, c6, c7, f0, f1, f2, f3, f4, f5, f6, f7⟩ := own_cells8 hO
    have hO2 := HT.out.2.2.1.chg hE (by have := HT.out.2.2.2.2.1; omega)
    obtain ⟨r0, r1, r2, r3, r4, r5, r6, r7, s0, s1, s2, s3, s4, s5, s6, s7⟩ := own_cells8 hO2
    have HB : Hid (Below w.heap.size w wE) := HT.out.2.2.2.2.2.2.trans (hE.below HT.out.2.2.2.2.2.2.size fun i hi e => by have := HT.out.2.2.2.2.1; have := HT.out.2.2.2.2.2.1; omega)
    have HK : Hid (takeReq b = bd (nx (pWord) (nx pWord (nx pKind (.ok b)))) fun l => done ((⟨6, tok, 0, [], [], [], 0, oo⟩ : Req), l)) := by
      unfold takeReq pReq
      rw [(nx_seq pKind _ (.ok b) _ HV0.out).2, (nx_seq pWord _ _ tok HVt.out).2, pRest_6]
      rw [(nx_seq (pWord) _ _ oo HV1.out).2]
      rw [bd_bd]
      rfl
    have HO2 := Lib.hid hO2
    have HF := Lib.hid (fin_cases _ HT.out.1.err (⟨6, tok, 0, [], [], [], 0, oo⟩ : Req))
    rw [← HK.out] at HF
    clear HK hO hO2 hE
    generalize endS (nx (pWord) (nx pWord (nx pKind (.ok b)))) = ee at *
    rcases HF.out with ⟨rfl, hf1, hf2⟩ | ⟨hf0, hf1, hf2⟩
    · have HF1 := Lib.hid (And.intro hf1 hf2)
      clear hf1 hf2 HF
      go_wp2
      have hW := own_put8 HO2.out (.int .i64 6) (.int .u64 tok) (.int .u64 0) (.string ⟨#[]⟩) (.slice none 0 0) (.slice none 0 0) (.int .u64 0) (.int .u64 oo)
      have hC := (chg8 wE g2 #[.int .i64 6, .int .u64 tok, .int .u64 0, .string ⟨#[]⟩, .slice none 0 0, .slice none 0 0, .int .u64 0, .int .u64 oo])
      show bodyPost _ _ _ _ _ (put8 wE g2 #[.int .i64 6, .int .u64 tok, .int .u64 0, .string ⟨#[]⟩, .slice none 0 0, .slice none 0 0, .int .u64 0, .int .u64 oo])
      generalize put8 wE g2 #[.int .i64 6, .int .u64 tok, .int .u64 0, .string ⟨#[]⟩, .slice none 0 0, .slice none 0 0, .int .u64 0, .int .u64 oo] = W at *
      clear c0 c1 c2 c3 c4 c5 c6 c7 f0 f1 f2 f3 f4 f5 f6 f7 r0 r1 r2 r3 r4 r5 r6 r7 s0 s1 s2 s3 s4 s5 s6 s7
      obtain ⟨k0, k1, k2, k3, k4, k5, k6, k7, -, -, -, -, -, -, -, -⟩ := own_cells8 hW
      refine bodyPost_ret (by simp [results, Try.results15, go_sem, k0, k1, k2, k3, k4, k5, k6, k7]; try rfl) rfl ?_
      obtain ⟨hf1, hf2⟩ := HF1.out
      refine ⟨_, by rw [hf1], ⟨none, 0, none, 0, by rw [hf2]; rfl, by rw [hf2]; exact RdX.nil _ _ _, by rw [hf2]; exact Nat.zero_le _, Nat.zero_le _, by rw [hf2]; exact RdU.nil _ _ _, by rw [hf2]; exact Nat.zero_le _, Nat.zero_le _, by rw [hf2]; exact ok_mk (by omega) (by omega) t0 t1 (by omega) (by omega) IsBytes.nil (by omega) (by omega) p1 q1⟩, HB.out.trans (hC.below HB.out.size fun i hi e => by have := HT.out.2.2.2.2.2.1; omega)⟩
    · have HF1 := Lib.hid (And.intro hf1 hf2)
      have hf3 : (ee != 0) = true := by simpa using hf0
      clear hf1 hf2 HF hf0
      go_wp2
      have hW := own_put8 HO2.out (.int .i64 0) (.int .u64 0) (.int .u64 0) (.string ⟨#[]⟩) (.slice none 0 0) (.slice none 0 0) (.int .u64 0) (.int .u64 0)
      have hC := chg8 wE g2 #[.int .i64 0, .int .u64 0, .int .u64 0, .string ⟨#[]⟩, .slice none 0 0, .slice none 0 0, .int .u64 0, .int .u64 0]
      show bodyPost _ _ _ _ _ (put8 wE g2 #[.int .i64 0, .int .u64 0, .int .u64 0, .string ⟨#[]⟩, .slice none 0 0, .slice none 0 0, .int .u64 0, .int .u64 0])
      generalize put8 wE g2 #[.int .i64 0, .int .u64 0, .int .u64 0, .string ⟨#[]⟩, .slice none 0 0, .slice none 0 0, .int .u64 0, .int .u64 0] = W at *
      clear c0 c1 c2 c3 c4 c5 c6 c7 f0 f1 f2 f3 f4 f5 f6 f7 r0 r1 r2 r3 r4 r5 r6 r7 s0 s1 s2 s3 s4 s5 s6 s7
      obtain ⟨k0, k1, k2, k3, k4, k5, k6, k7, -, -, -, -, -, -, -, -⟩ := own_cells8 hW
      refine bodyPost_ret (by simp [results, Try.results15, go_sem, k0, k1, k2, k3, k4, k5, k6, k7]; try rfl) rfl ?_
      obtain ⟨hf1, hf2⟩ := HF1.out
      refine ⟨_, by rw [hf1], by rw [hf2]; exact zreq_v _ _, HB.out.trans (hC.below HB.out.size fun i hi e => by have := HT.out.2.2.2.2.2.1; omega)⟩
end Go.Proofs.Ytnjbijndfbobbaa
