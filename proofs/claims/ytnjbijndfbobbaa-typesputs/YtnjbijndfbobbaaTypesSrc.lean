/- types' source: what its calls come to. -/
import Derived.Test.YtnjbijndfbobbaaReqSrc
namespace Go.Proofs.Ytnjbijndfbobbaa
open Go.RowKit
set_option maxRecDepth 100000
set_option linter.unusedVariables false

def pAmong (ps : List Int) : PR Int := seq pByte fun x l => if x ∈ ps then .ok (x, l) else .error 2
def valE (x : Int) : Int := if x = 127 ∨ x = 126 ∨ x = 112 ∨ x = 111 then 0 else if x = 125 ∨ x = 124 ∨ x = 123 then 5 else 2
theorem valE_cases (x : Int) : valE x = 0 ∨ valE x = 5 ∨ valE x = 2 := by
  unfold valE
  by_cases h1 : x = 127 ∨ x = 126 ∨ x = 112 ∨ x = 111
  · rw [if_pos h1]; exact .inl rfl
  · rw [if_neg h1]
    by_cases h2 : x = 125 ∨ x = 124 ∨ x = 123
    · rw [if_pos h2]; exact .inr (.inl rfl)
    · rw [if_neg h2]; exact .inr (.inr rfl)
def pVal : PR Int := seq pByte fun x l => if valE x = 0 then .ok (x, l) else .error (valE x)
def pV : Nat → List Int → PR (List Int)
  | 0, acc => fun l => .ok (acc, l)
  | n + 1, acc => seq pVal fun x => pV n (acc ++ [x])
def pVals : PR (List Int) := seq (pCount 8) fun n => pV n.toNat []
abbrev Fn := List Int × List Int
def pFn : PR Fn := seq (pAmong [96]) fun _ => seq pVals fun ps => seq pVals fun rs l => .ok ((ps, rs), l)
structure Lim where
  min : Int
  max : Int
  has : Bool
deriving DecidableEq
def pLim : PR Lim := seq (pAmong [0, 1]) fun k => seq (pU 32) fun a => if k = 1 then seq (pU 32) fun b l => .ok (⟨a, b, true⟩, l) else fun l => .ok (⟨a, 0, false⟩, l)

def valT (x : Int) : Value := .tuple #[.bool (decide (valE x = 0)), .int .i64 (valE x)]
set_option maxHeartbeats 1000000 in
theorem value_any (F : Nat) (hF : F = 29 ∨ F = 30) (x : Int) (w : World) (h0 : 0 ≤ x) (h1 : x ≤ 255) :
    Calls Try.prog F #[.int .u8 x] w fun e w' => e = .returned (valT x) ∧ w = w' := by
  have key : x = 127 ∨ x = 126 ∨ x = 112 ∨ x = 111 ∨ x = 125 ∨ x = 124 ∨ x = 123 ∨ ((x == 127) = false ∧ (x == 126) = false ∧ (x == 112) = false ∧ (x == 111) = false ∧ (x == 125) = false ∧ (x == 124) = false ∧ (x == 123) = false ∧ valE x = 2) := by
    by_cases a1 : x = 127
    · exact .inl a1
    by_cases a2 : x = 126
    · exact .inr (.inl a2)
    by_cases a3 : x = 112
    · exact .inr (.inr (.inl a3))
    by_cases a4 : x = 111
    · exact .inr (.inr (.inr (.inl a4)))
    by_cases a5 : x = 125
    · exact .inr (.inr (.inr (.inr (.inl a5))))
    by_cases a6 : x = 124
    · exact .inr (.inr (.inr (.inr (.inr (.inl a6)))))
    by_cases a7 : x = 123
    · exact .inr (.inr (.inr (.inr (.inr (.inr (.inl a7))))))
    refine .inr (.inr (.inr (.inr (.inr (.inr (.inr ⟨by simpa using a1, by simpa using a2, by simpa using a3, by simpa using a4, by simpa using a5, by simpa using a6, by simpa using a7, ?_⟩))))))
    unfold valE
    rw [if_neg (by omega), if_neg (by omega)]
  rcases hF with rfl | rfl
  · rcases key with rfl | rfl | rfl | rfl | rfl | rfl | rfl | ⟨e1, e2, e3, e4, e5, e6, e7, hv⟩
    all_goals (go_enter Try.func29, Try.ntmps29; go_wp2; go_returns)
    · exact ⟨rfl, rfl⟩
    · exact ⟨rfl, rfl⟩
    · exact ⟨rfl, rfl⟩
    · exact ⟨rfl, rfl⟩
    · exact ⟨rfl, rfl⟩
    · exact ⟨rfl, rfl⟩
    · exact ⟨rfl, rfl⟩
    · unfold valT; rw [hv]; exact ⟨rfl, rfl⟩
  · rcases key with rfl | rfl | rfl | rfl | rfl | rfl | rfl | ⟨e1, e2, e3, e4, e5, e6, e7, hv⟩
    all_goals (go_enter Try.func30, Try.ntmps30; go_wp2; go_returns)
    · exact ⟨rfl, rfl⟩
    · exact ⟨rfl, rfl⟩
    · exact ⟨rfl, rfl⟩
    · exact ⟨rfl, rfl⟩
    · exact ⟨rfl, rfl⟩
    · exact ⟨rfl, rfl⟩
    · exact ⟨rfl, rfl⟩
    · unfold valT; rw [hv]; exact ⟨rfl, rfl⟩

theorem not_mem_step {l : List Int} {k : Nat} {x : Int} (hk : k < l.length) (h : x ∉ l.take k) (he : x ≠ l.getD k 0) : x ∉ l.take (k + 1) := by
  rw [List.take_add_one, List.getElem?_eq_getElem hk]
  rw [List.getD_eq_getElem?_getD, List.getElem?_eq_getElem hk] at he
  simp only [Option.getD_some] at he
  simp only [Option.toList_some, List.mem_append, List.mem_singleton, not_or]
  exact ⟨h, he⟩
theorem getD_mem {l : List Int} {k : Nat} (hk : k < l.length) : l.getD k 0 ∈ l := by
  rw [List.getD_eq_getElem?_getD, List.getElem?_eq_getElem hk]
  simp
set_option maxHeartbeats 1000000 in
theorem index_any {X : Nat → Prop} (A : Option Addr) (l : List Int) (n c : Nat) (x : Int) (w : World) (hr : RdX X w A l) (hn : n = l.length) (hl : n ≤ 1000000) :
    Calls Try.prog 97 #[.slice A n c, .int .u8 x] w fun e w' => (∃ r : Int, e = .returned (.int .i64 r) ∧ decide (r ≥ 0) = decide (x ∈ l)) ∧ w = w' := by
  have HR := Lib.hid (And.intro hr hn)
  clear hr hn
  go_enter Try.func97, Try.ntmps97
  go_wp2
  go_loop [8] (fun i => ∃ k : Nat, k ≤ n ∧ i = .int .i64 k ∧ Hid (x ∉ l.take k)) (fun i => n - (intOf i).toNat)
  case atStart => exact ⟨0, by omega, rfl, by unfold Hid; simp⟩
  case round =>
    obtain ⟨k, hk, rfl, HX⟩ := hrel
    by_cases hlt : k < n
    · have hkl : k < l.length := by rw [← HR.out.2]; exact hlt
      have hlt2 : (k : Int) < n := by omega
      obtain ⟨b, o, rfl, hb, hb2, hcell⟩ := HR.out.1.2.spot (by simp; omega)
      have hc := hcell k (.int .u8 (l.getD k 0)) (by simp [List.getElem?_eq_getElem hkl, List.getD_eq_getElem?_getD])
      clear hcell hb hb2
      by_cases he : x = l.getD k 0
      · have hmem : x ∈ l := by rw [he]; exact getD_mem hkl
        have HM := Lib.hid hmem
        have heq : (x == l.getD k 0) = true := by simpa using he
        clear hmem he
        generalize l.getD k 0 = y at *
        go_wp2
        go_ret
        exact ⟨⟨k, rfl, by simp [HM.out]⟩, rfl⟩
      · have hne : (x == l.getD k 0) = false := by simpa using he
        have HM := Lib.hid (not_mem_step hkl HX.out he)
        clear he
        generalize l.getD k 0 = y at *
        go_wp2
        exact ⟨⟨k + 1, by omega, by go_num, HM.out⟩, by simp [intOf]; omega⟩
    · obtain rfl : k = n := by omega
      go_wp2
      go_ret
      have : x ∉ l := by have := HX.out; rwa [HR.out.2, List.take_length] at this
      exact ⟨⟨-1, rfl, by simp [this]⟩, rfl⟩
theorem contains_any {X : Nat → Prop} (A : Option Addr) (l : List Int) (n c : Nat) (x : Int) (w : World) (hr : RdX X w A l) (hn : n = l.length) (hl : n ≤ 1000000) :
    Calls Try.prog 87 #[.slice A n c, .int .u8 x] w fun e w' => e = .returned (.bool (decide (x ∈ l))) ∧ w = w' := by
  have HI := Lib.hid (index_any A l n c x w hr hn hl)
  clear hr hn
  go_enter Try.func87, Try.ntmps87
  go_wp2_with fail
  refine HI.out.mono ?_
  rintro e w' ⟨⟨r, rfl, hr⟩, rfl⟩
  have HR := Lib.hid hr
  clear hr HI
  go_wp2
  go_ret
  exact ⟨by rw [← HR.out]; rfl, rfl⟩

theorem am_in {ps : List Int} {s : St} {x : Int} (h : x ∈ ps) (h3 : ∀ a l', bd s pByte = .ok (a, l') → x = a) : nx (pAmong ps) s = nx pByte s ∧ ∀ a l', bd s (pAmong ps) = .ok (a, l') → x = a := by
  cases s with
  | error e => exact ⟨rfl, fun a l' h => by cases h⟩
  | ok l =>
    simp only [nx_ok, bd_ok, pAmong, seq] at h3 ⊢
    cases hp : pByte l with
    | error e => simp
    | ok r =>
      have := h3 r.1 r.2 (by rw [hp])
      subst this
      rw [bd_ok, if_pos h]
      exact ⟨rfl, fun a l' h => by injection h with h; injection h⟩
theorem am_out {ps : List Int} {s : St} {x : Int} (h : x ∉ ps) (h3 : ∀ a l', bd s pByte = .ok (a, l') → x = a) : nx (pAmong ps) s = failS 2 (nx pByte s) ∧ ∀ a l', bd s (pAmong ps) ≠ .ok (a, l') := by
  cases s with
  | error e => exact ⟨rfl, fun a l' h => by cases h⟩
  | ok l =>
    simp only [nx_ok, bd_ok, pAmong, seq] at h3 ⊢
    cases hp : pByte l with
    | error e => simp [failS]
    | ok r =>
      have := h3 r.1 r.2 (by rw [hp])
      subst this
      rw [bd_ok, if_neg h]
      exact ⟨rfl, fun a l' h => by cases h⟩
theorem among_any (g : Nat) (t : TypeId) (tl : RTl) (s : St) (ps : List Int) (A : Option Addr) (n c : Nat) (w : World) (h : RdrAt w g t tl s) (hr : RdX (fun k => k ≠ g) w A ps) (hn : n = ps.length) (hl : n ≤ 1000000) :
    Calls Try.prog 71 #[.pointer (some ⟨g, 0, none⟩), .slice A n c] w (RPost .u8 255 (pAmong ps) g t tl s w) := by
  have HB := Lib.hid (rbyte_any g t tl s w h)
  have HR := Lib.hid (And.intro hr hn)
  clear h hr hn
  go_enter Try.func71, Try.ntmps71
  go_wp2_with fail
  refine HB.out.mono ?_
  rintro e w' ⟨x, rfl, h0, h1, h2, h3, h4⟩
  have HC := Lib.hid (contains_any A ps n c x w' (HR.out.1.chg h4 fun k _ hk e => hk e) HR.out.2 hl)
  have H2 := Lib.hid (And.intro h2 (And.intro h3 h4))
  clear h2 h3 h4 HB
  go_wp2_with fail
  refine HC.out.mono ?_
  rintro e w1 ⟨rfl, rfl⟩
  clear HC
  by_cases hx : x ∈ ps
  · have hd : decide (x ∈ ps) = true := by simpa using hx
    rw [hd]
    have HK := Lib.hid (am_in hx H2.out.2.1)
    clear hx hd
    go_wp2
    go_ret
    exact ⟨x, rfl, h0, h1, by rw [HK.out.1]; exact H2.out.1, HK.out.2, H2.out.2.2⟩
  · have hd : decide (x ∈ ps) = false := by simpa using hx
    rw [hd]
    have HK := Lib.hid (am_out hx H2.out.2.1)
    have HF := Lib.hid (rfail_any g t tl _ 2 w' H2.out.1 (by omega) (by omega))
    clear hx hd
    go_wp2_with fail
    refine HF.out.mono ?_
    rintro e w2 ⟨⟨u, rfl⟩, h2, hc⟩
    have HC := Lib.hid (And.intro h2 hc)
    clear h2 hc
    go_wp2
    go_ret
    exact ⟨x, rfl, h0, h1, by rw [HK.out.1]; exact HC.out.1, (fun a l' h => (HK.out.2 a l' h).elim), H2.out.2.2.trans HC.out.2 fun k _ e => e⟩

theorem val_in {s : St} {x : Int} (h : valE x = 0) (h3 : ∀ a l', bd s pByte = .ok (a, l') → x = a) : nx pVal s = nx pByte s ∧ ∀ a l', bd s pVal = .ok (a, l') → x = a := by
  cases s with
  | error e => exact ⟨rfl, fun a l' h => by cases h⟩
  | ok l =>
    simp only [nx_ok, bd_ok, pVal, seq] at h3 ⊢
    cases hp : pByte l with
    | error e => simp
    | ok r =>
      have := h3 r.1 r.2 (by rw [hp])
      subst this
      rw [bd_ok, if_pos h]
      exact ⟨rfl, fun a l' h => by injection h with h; injection h⟩
theorem val_out {s : St} {x : Int} (h : valE x ≠ 0) (h3 : ∀ a l', bd s pByte = .ok (a, l') → x = a) : nx pVal s = failS (valE x) (nx pByte s) ∧ ∀ a l', bd s pVal ≠ .ok (a, l') := by
  cases s with
  | error e => exact ⟨rfl, fun a l' h => by cases h⟩
  | ok l =>
    simp only [nx_ok, bd_ok, pVal, seq] at h3 ⊢
    cases hp : pByte l with
    | error e => simp [failS]
    | ok r =>
      have := h3 r.1 r.2 (by rw [hp])
      subst this
      rw [bd_ok, if_neg h]
      exact ⟨rfl, fun a l' h => by cases h⟩
theorem svalue_any (g : Nat) (t : TypeId) (tl : RTl) (s : St) (w : World) (h : RdrAt w g t tl s) :
    Calls Try.prog 88 #[.pointer (some ⟨g, 0, none⟩)] w (RPost .u8 255 pVal g t tl s w) := by
  have HB := Lib.hid (rbyte_any g t tl s w h)
  clear h
  go_enter Try.func88, Try.ntmps88
  go_wp2_with fail
  refine HB.out.mono ?_
  rintro e w' ⟨x, rfl, h0, h1, h2, h3, h4⟩
  have HC := Lib.hid (value_any 29 (by simp) x w' h0 h1)
  have H2 := Lib.hid (And.intro h2 (And.intro h3 h4))
  clear h2 h3 h4 HB
  go_wp2_with fail
  refine HC.out.mono ?_
  rintro e w1 ⟨rfl, rfl⟩
  clear HC
  unfold valT
  by_cases hx : valE x = 0
  · have HK := Lib.hid (val_in hx H2.out.2.1)
    rw [hx]
    go_wp2
    go_ret
    exact ⟨x, rfl, h0, h1, by rw [HK.out.1]; exact H2.out.1, HK.out.2, H2.out.2.2⟩
  · have HK := Lib.hid (val_out hx H2.out.2.1)
    have hp : 0 < valE x ∧ valE x ≤ 100 := by rcases valE_cases x with h | h | h <;> omega
    have HF := Lib.hid (rfail_any g t tl _ (valE x) w' H2.out.1 hp.1 hp.2)
    have hne : (valE x != 0) = true := by simpa using hx
    have hd : decide (valE x = 0) = false := by simpa using hx
    rw [hd]
    clear hx hd
    generalize valE x = ve at *
    go_wp2_with fail
    refine HF.out.mono ?_
    rintro e w2 ⟨⟨u, rfl⟩, h2, hc⟩
    have HC := Lib.hid (And.intro h2 hc)
    clear h2 hc
    go_wp2
    go_ret
    exact ⟨x, rfl, h0, h1, by rw [HK.out.1]; exact HC.out.1, (fun a l' h => (HK.out.2 a l' h).elim), H2.out.2.2.trans HC.out.2 fun k _ e => e⟩

set_option maxHeartbeats 1000000 in
theorem svalues_any (g : Nat) (t : TypeId) (tl : RTl) (s : St) (w : World) (h : RdrAt w g t tl s) :
    Calls Try.prog 72 #[.pointer (some ⟨g, 0, none⟩)] w (BPost pVals g t tl s w) := by
  have HH := Lib.hid h
  have hgw := h.lt
  clear h
  go_enter Try.func72, Try.ntmps72
  go_wp2_with fail
  refine (rcount_any g t tl s 8 w HH.out (by omega) (by omega)).mono ?_
  rintro e w1 ⟨x, rfl, h0, h1, h2, h3, h4⟩
  obtain ⟨n, rfl⟩ : ∃ n : Nat, x = n := ⟨x.toNat, by omega⟩
  have hs1 := h4.size
  have H2 := Lib.hid (And.intro h2 (And.intro h3 h4))
  clear h2 h3 h4
  go_wp2
  go_loopw [2, 7] (fun v i wr => ∃ (y : List Int) (k : Nat) (sk : St), k ≤ n ∧ i = .int .i64 k ∧ y.length = k ∧ w.heap.size ≤ wr.heap.size ∧ Hid (RdrAt wr g t tl sk ∧ OwnB wr w.heap.size v y ∧ IsBytes y ∧ bd (nx (pCount 8) s) (pV n []) = bd sk (pV (n - k) y) ∧ Chg (fun k => k = g) w wr)) (fun _ i _ => n - (intOf i).toNat)
  case atStart => exact ⟨[], 0, _, by omega, rfl, rfl, hs1, H2.out.1, OwnB.nil _ _, IsBytes.nil, by simp, H2.out.2.2⟩
  case round =>
    obtain ⟨y, k, sk, hk, rfl, hyk, hsz, HX⟩ := hrel
    have HYK := Lib.hid hyk
    clear hyk
    by_cases hlt : k < n
    · have hlt2 : (k : Int) < n := by omega
      go_wp2_with fail
      refine (svalue_any g t tl sk wr HX.out.1).mono ?_
      rintro e w2 ⟨z, rfl, z0, z1, h2, h3, h4⟩
      have hs2 := h4.size
      have H3 : Hid (RdrAt w2 g t tl (nx pVal sk) ∧ OwnB w2 w.heap.size u2 y ∧ IsBytes (y ++ [z]) ∧ bd (nx (pCount 8) s) (pV n []) = bd (nx pVal sk) (pV (n - (k + 1)) (y ++ [z])) ∧ Chg (fun k => k = g) w w2) := by
        obtain ⟨q1, q2, q3, q4, q5⟩ := HX.out
        refine ⟨h2, q2.chg h4 fun i hi e => ?_, q3.app (IsBytes.one z0 (by omega)), ?_, q5.trans h4 fun k _ e => e⟩
        · have := owns_ge q2 hi; omega
        · rw [q4, show n - k = n - (k + 1) + 1 from by omega]
          exact (nx_seq pVal (fun x => pV (n - (k + 1)) (y ++ [x])) sk z h3).2
      clear h2 h3 h4
      go_wp2_with (at_builtin; refine wpList_app1 rfl (.tmp 9) (.tmp 12) rfl w.heap.size u2 y rfl H3.out.2.1 z rfl z0 z1 (by have := HYK.out; omega) (by omega) ?_; intro v1 w3 hv1 hw1; have HV := Lib.hid (And.intro hv1 hw1); clear hv1 hw1)
      go_wp2
      have hs3 := HV.out.2.size
      refine ⟨⟨y ++ [z], k + 1, _, by omega, by go_num, by have := HYK.out; simp; omega, by omega, H3.out.1.below HV.out.2 hgw (by omega), HV.out.1, H3.out.2.2.1, H3.out.2.2.2.1, ?_⟩, ?_⟩
      · exact H3.out.2.2.2.2.trans ⟨HV.out.2.os, HV.out.2.tape, HV.out.2.output, HV.out.2.size, fun i hi hn => HV.out.2.block i (by exact Nat.lt_of_not_le hn)⟩ fun i hi e => by omega
      · simp [intOf]; omega
    · obtain rfl : k = n := by omega
      go_wp2
      go_ret
      obtain ⟨q1, q2, q3, q4, q5⟩ := HX.out
      have e0 : pV (k - k) y = fun l => .ok (y, l) := by rw [Nat.sub_self]; rfl
      rw [e0] at q4
      obtain ⟨k1, k2⟩ := nx_seq (pCount 8) (fun n => pV n.toNat []) s (k : Int) H2.out.2.1
      rw [Int.toNat_natCast] at k1 k2
      refine ⟨_, y, rfl, q2, q3, ?_, (fun a l' h => ?_), q5, by have := HYK.out; omega⟩
      · unfold pVals; rw [k1, nx, q4]; cases sk <;> exact q1
      · unfold pVals at h
        rw [k2, q4] at h
        cases sk with
        | error e => cases h
        | ok l => injection h with h; injection h
end Go.Proofs.Ytnjbijndfbobbaa
