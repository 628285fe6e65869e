/- Texts joined: TypesSrc, Ints, OpKind, CodeMath, Utf8Math. -/
import Derived.Test.YtadgiekiiicmfaaGreatDoorJoin4
import Derived.Test.YtadgiekiiicmfaaGreatDoorJoin2
import Derived.Lib.ValidLaws
import Derived.Lib.EndianBits
/- types' source: what its calls come to. -/
namespace Go.Proofs.YtadgiekiiicmfaaGreatDoor
open Go.RowKit
set_option maxRecDepth 100000
set_option linter.unusedVariables false

def pAmong (ps : List Int) : PR Int := seq pByte fun x l => if x ∈ ps then .ok (x, l) else .error 2
def valE (x : Int) : Int := if x = 127 ∨ x = 126 ∨ x = 112 ∨ x = 111 then 0 else if x = 125 ∨ x = 124 ∨ x = 123 then 5 else 2
theorem valE_cases (x : Int) : valE x = 0 ∨ valE x = 5 ∨ valE x = 2 := by
  unfold valE
  by_cases h1 : x = 127 ∨ x = 126 ∨ x = 112 ∨ x = 111
  · rw [if_pos h1]; exact .inl rfl
  · rw [if_neg h1]
    by_cases h2 : x = 125 ∨ x = 124 ∨ x = 123
    · rw [if_pos h2]; exact .inr (.inl rfl)
    · rw [if_neg h2]; exact .inr (.inr rfl)
def pVal : PR Int := seq pByte fun x l => if valE x = 0 then .ok (x, l) else .error (valE x)
def pV : Nat → List Int → PR (List Int)
  | 0, acc => fun l => .ok (acc, l)
  | n + 1, acc => seq pVal fun x => pV n (acc ++ [x])
def pVals : PR (List Int) := seq (pCount 8) fun n => pV n.toNat []
abbrev Fn := List Int × List Int
def pFn : PR Fn := seq (pAmong [96]) fun _ => seq pVals fun ps => seq pVals fun rs l => .ok ((ps, rs), l)
structure Lim where
  min : Int
  max : Int
  has : Bool
deriving DecidableEq
def pLim : PR Lim := seq (pAmong [0, 1]) fun k => seq (pU 32) fun a => if k = 1 then seq (pU 32) fun b l => .ok (⟨a, b, true⟩, l) else fun l => .ok (⟨a, 0, false⟩, l)

def valT (x : Int) : Value := .tuple #[.bool (decide (valE x = 0)), .int .i64 (valE x)]
set_option maxHeartbeats 1000000 in
theorem value_any (F : Nat) (hF : F = 163 ∨ F = 168) (x : Int) (w : World) (h0 : 0 ≤ x) (h1 : x ≤ 255) :
    Calls Tryz.prog F #[.int .u8 x] w fun e w' => e = .returned (valT x) ∧ w = w' := by
  have key : x = 127 ∨ x = 126 ∨ x = 112 ∨ x = 111 ∨ x = 125 ∨ x = 124 ∨ x = 123 ∨ ((x == 127) = false ∧ (x == 126) = false ∧ (x == 112) = false ∧ (x == 111) = false ∧ (x == 125) = false ∧ (x == 124) = false ∧ (x == 123) = false ∧ valE x = 2) := by
    by_cases a1 : x = 127
    · exact .inl a1
    by_cases a2 : x = 126
    · exact .inr (.inl a2)
    by_cases a3 : x = 112
    · exact .inr (.inr (.inl a3))
    by_cases a4 : x = 111
    · exact .inr (.inr (.inr (.inl a4)))
    by_cases a5 : x = 125
    · exact .inr (.inr (.inr (.inr (.inl a5))))
    by_cases a6 : x = 124
    · exact .inr (.inr (.inr (.inr (.inr (.inl a6)))))
    by_cases a7 : x = 123
    · exact .inr (.inr (.inr (.inr (.inr (.inr (.inl a7))))))
    refine .inr (.inr (.inr (.inr (.inr (.inr (.inr ⟨by simpa using a1, by simpa using a2, by simpa using a3, by simpa using a4, by simpa using a5, by simpa using a6, by simpa using a7, ?_⟩))))))
    unfold valE
    rw [if_neg (by omega), if_neg (by omega)]
  rcases hF with rfl | rfl
  · rcases key with rfl | rfl | rfl | rfl | rfl | rfl | rfl | ⟨e1, e2, e3, e4, e5, e6, e7, hv⟩
    all_goals (go_enter Tryz.func163, Tryz.ntmps163; go_wp2; go_returns)
    · exact ⟨rfl, rfl⟩
    · exact ⟨rfl, rfl⟩
    · exact ⟨rfl, rfl⟩
    · exact ⟨rfl, rfl⟩
    · exact ⟨rfl, rfl⟩
    · exact ⟨rfl, rfl⟩
    · exact ⟨rfl, rfl⟩
    · unfold valT; rw [hv]; exact ⟨rfl, rfl⟩
  · rcases key with rfl | rfl | rfl | rfl | rfl | rfl | rfl | ⟨e1, e2, e3, e4, e5, e6, e7, hv⟩
    all_goals (go_enter Tryz.func168, Tryz.ntmps168; go_wp2; go_returns)
    · exact ⟨rfl, rfl⟩
    · exact ⟨rfl, rfl⟩
    · exact ⟨rfl, rfl⟩
    · exact ⟨rfl, rfl⟩
    · exact ⟨rfl, rfl⟩
    · exact ⟨rfl, rfl⟩
    · exact ⟨rfl, rfl⟩
    · unfold valT; rw [hv]; exact ⟨rfl, rfl⟩

theorem not_mem_step {l : List Int} {k : Nat} {x : Int} (hk : k < l.length) (h : x ∉ l.take k) (he : x ≠ l.getD k 0) : x ∉ l.take (k + 1) := by
  rw [List.take_add_one, List.getElem?_eq_getElem hk]
  rw [List.getD_eq_getElem?_getD, List.getElem?_eq_getElem hk] at he
  simp only [Option.getD_some] at he
  simp only [Option.toList_some, List.mem_append, List.mem_singleton, not_or]
  exact ⟨h, he⟩
theorem getD_mem {l : List Int} {k : Nat} (hk : k < l.length) : l.getD k 0 ∈ l := by
  rw [List.getD_eq_getElem?_getD, List.getElem?_eq_getElem hk]
  simp
set_option maxHeartbeats 1000000 in
theorem index_any {X : Nat → Prop} (A : Option Addr) (l : List Int) (n c : Nat) (x : Int) (w : World) (hr : RdX X w A l) (hn : n = l.length) (hl : n ≤ 1000000) :
    Calls Tryz.prog 185 #[.slice A n c, .int .u8 x] w fun e w' => (∃ r : Int, e = .returned (.int .i64 r) ∧ decide (r ≥ 0) = decide (x ∈ l)) ∧ w = w' := by
  have HR := Lib.hid (And.intro hr hn)
  clear hr hn
  go_enter Tryz.func185, Tryz.ntmps185
  go_wp2
  go_loop [8] (fun i => ∃ k : Nat, k ≤ n ∧ i = .int .i64 k ∧ Hid (x ∉ l.take k)) (fun i => n - (intOf i).toNat)
  case atStart => exact ⟨0, by omega, rfl, by unfold Hid; simp⟩
  case round =>
    obtain ⟨k, hk, rfl, HX⟩ := hrel
    by_cases hlt : k < n
    · have hkl : k < l.length := by rw [← HR.out.2]; exact hlt
      have hlt2 : (k : Int) < n := by omega
      obtain ⟨b, o, rfl, hb, hb2, hcell⟩ := HR.out.1.2.spot (by simp; omega)
      have hc := hcell k (.int .u8 (l.getD k 0)) (by simp [List.getElem?_eq_getElem hkl, List.getD_eq_getElem?_getD])
      clear hcell hb hb2
      by_cases he : x = l.getD k 0
      · have hmem : x ∈ l := by rw [he]; exact getD_mem hkl
        have HM := Lib.hid hmem
        have heq : (x == l.getD k 0) = true := by simpa using he
        clear hmem he
        generalize l.getD k 0 = y at *
        go_wp2
        go_ret
        exact ⟨⟨k, rfl, by simp [HM.out]⟩, rfl⟩
      · have hne : (x == l.getD k 0) = false := by simpa using he
        have HM := Lib.hid (not_mem_step hkl HX.out he)
        clear he
        generalize l.getD k 0 = y at *
        go_wp2
        exact ⟨⟨k + 1, by omega, by go_num, HM.out⟩, by simp [intOf]; omega⟩
    · obtain rfl : k = n := by omega
      go_wp2
      go_ret
      have : x ∉ l := by have := HX.out; rwa [HR.out.2, List.take_length] at this
      exact ⟨⟨-1, rfl, by simp [this]⟩, rfl⟩
theorem contains_any {X : Nat → Prop} (A : Option Addr) (l : List Int) (n c : Nat) (x : Int) (w : World) (hr : RdX X w A l) (hn : n = l.length) (hl : n ≤ 1000000) :
    Calls Tryz.prog 174 #[.slice A n c, .int .u8 x] w fun e w' => e = .returned (.bool (decide (x ∈ l))) ∧ w = w' := by
  have HI := Lib.hid (index_any A l n c x w hr hn hl)
  clear hr hn
  go_enter Tryz.func174, Tryz.ntmps174
  go_wp2_with fail
  refine HI.out.mono ?_
  rintro e w' ⟨⟨r, rfl, hr⟩, rfl⟩
  have HR := Lib.hid hr
  clear hr HI
  go_wp2
  go_ret
  exact ⟨by rw [← HR.out]; rfl, rfl⟩

theorem am_in {ps : List Int} {s : St} {x : Int} (h : x ∈ ps) (h3 : ∀ a l', bd s pByte = .ok (a, l') → x = a) : nx (pAmong ps) s = nx pByte s ∧ ∀ a l', bd s (pAmong ps) = .ok (a, l') → x = a := by
  cases s with
  | error e => exact ⟨rfl, fun a l' h => by cases h⟩
  | ok l =>
    simp only [nx_ok, bd_ok, pAmong, seq] at h3 ⊢
    cases hp : pByte l with
    | error e => simp
    | ok r =>
      have := h3 r.1 r.2 (by rw [hp])
      subst this
      rw [bd_ok, if_pos h]
      exact ⟨rfl, fun a l' h => by injection h with h; injection h⟩
theorem am_out {ps : List Int} {s : St} {x : Int} (h : x ∉ ps) (h3 : ∀ a l', bd s pByte = .ok (a, l') → x = a) : nx (pAmong ps) s = failS 2 (nx pByte s) ∧ ∀ a l', bd s (pAmong ps) ≠ .ok (a, l') := by
  cases s with
  | error e => exact ⟨rfl, fun a l' h => by cases h⟩
  | ok l =>
    simp only [nx_ok, bd_ok, pAmong, seq] at h3 ⊢
    cases hp : pByte l with
    | error e => simp [failS]
    | ok r =>
      have := h3 r.1 r.2 (by rw [hp])
      subst this
      rw [bd_ok, if_neg h]
      exact ⟨rfl, fun a l' h => by cases h⟩
theorem among_any (g : Nat) (t : TypeId) (tl : RTl) (s : St) (ps : List Int) (A : Option Addr) (n c : Nat) (w : World) (h : RdrAt w g t tl s) (hr : RdX (fun k => k ≠ g) w A ps) (hn : n = ps.length) (hl : n ≤ 1000000) :
    Calls Tryz.prog 157 #[.pointer (some ⟨g, 0, none⟩), .slice A n c] w (RPost .u8 255 (pAmong ps) g t tl s w) := by
  have HB := Lib.hid (rbyte_any g t tl s w h)
  have HR := Lib.hid (And.intro hr hn)
  clear h hr hn
  go_enter Tryz.func157, Tryz.ntmps157
  go_wp2_with fail
  refine HB.out.mono ?_
  rintro e w' ⟨x, rfl, h0, h1, h2, h3, h4⟩
  have HC := Lib.hid (contains_any A ps n c x w' (HR.out.1.chg h4 fun k _ hk e => hk e) HR.out.2 hl)
  have H2 := Lib.hid (And.intro h2 (And.intro h3 h4))
  clear h2 h3 h4 HB
  go_wp2_with fail
  refine HC.out.mono ?_
  rintro e w1 ⟨rfl, rfl⟩
  clear HC
  by_cases hx : x ∈ ps
  · have hd : decide (x ∈ ps) = true := by simpa using hx
    rw [hd]
    have HK := Lib.hid (am_in hx H2.out.2.1)
    clear hx hd
    go_wp2
    go_ret
    exact ⟨x, rfl, h0, h1, by rw [HK.out.1]; exact H2.out.1, HK.out.2, H2.out.2.2⟩
  · have hd : decide (x ∈ ps) = false := by simpa using hx
    rw [hd]
    have HK := Lib.hid (am_out hx H2.out.2.1)
    have HF := Lib.hid (rfail_any g t tl _ 2 w' H2.out.1 (by omega) (by omega))
    clear hx hd
    go_wp2_with fail
    refine HF.out.mono ?_
    rintro e w2 ⟨⟨u, rfl⟩, h2, hc⟩
    have HC := Lib.hid (And.intro h2 hc)
    clear h2 hc
    go_wp2
    go_ret
    exact ⟨x, rfl, h0, h1, by rw [HK.out.1]; exact HC.out.1, (fun a l' h => (HK.out.2 a l' h).elim), H2.out.2.2.trans HC.out.2 fun k _ e => e⟩

theorem val_in {s : St} {x : Int} (h : valE x = 0) (h3 : ∀ a l', bd s pByte = .ok (a, l') → x = a) : nx pVal s = nx pByte s ∧ ∀ a l', bd s pVal = .ok (a, l') → x = a := by
  cases s with
  | error e => exact ⟨rfl, fun a l' h => by cases h⟩
  | ok l =>
    simp only [nx_ok, bd_ok, pVal, seq] at h3 ⊢
    cases hp : pByte l with
    | error e => simp
    | ok r =>
      have := h3 r.1 r.2 (by rw [hp])
      subst this
      rw [bd_ok, if_pos h]
      exact ⟨rfl, fun a l' h => by injection h with h; injection h⟩
theorem val_out {s : St} {x : Int} (h : valE x ≠ 0) (h3 : ∀ a l', bd s pByte = .ok (a, l') → x = a) : nx pVal s = failS (valE x) (nx pByte s) ∧ ∀ a l', bd s pVal ≠ .ok (a, l') := by
  cases s with
  | error e => exact ⟨rfl, fun a l' h => by cases h⟩
  | ok l =>
    simp only [nx_ok, bd_ok, pVal, seq] at h3 ⊢
    cases hp : pByte l with
    | error e => simp [failS]
    | ok r =>
      have := h3 r.1 r.2 (by rw [hp])
      subst this
      rw [bd_ok, if_neg h]
      exact ⟨rfl, fun a l' h => by cases h⟩
theorem svalue_any (g : Nat) (t : TypeId) (tl : RTl) (s : St) (w : World) (h : RdrAt w g t tl s) :
    Calls Tryz.prog 175 #[.pointer (some ⟨g, 0, none⟩)] w (RPost .u8 255 pVal g t tl s w) := by
  have HB := Lib.hid (rbyte_any g t tl s w h)
  clear h
  go_enter Tryz.func175, Tryz.ntmps175
  go_wp2_with fail
  refine HB.out.mono ?_
  rintro e w' ⟨x, rfl, h0, h1, h2, h3, h4⟩
  have HC := Lib.hid (value_any 163 (by simp) x w' h0 h1)
  have H2 := Lib.hid (And.intro h2 (And.intro h3 h4))
  clear h2 h3 h4 HB
  go_wp2_with fail
  refine HC.out.mono ?_
  rintro e w1 ⟨rfl, rfl⟩
  clear HC
  unfold valT
  by_cases hx : valE x = 0
  · have HK := Lib.hid (val_in hx H2.out.2.1)
    rw [hx]
    go_wp2
    go_ret
    exact ⟨x, rfl, h0, h1, by rw [HK.out.1]; exact H2.out.1, HK.out.2, H2.out.2.2⟩
  · have HK := Lib.hid (val_out hx H2.out.2.1)
    have hp : 0 < valE x ∧ valE x ≤ 100 := by rcases valE_cases x with h | h | h <;> omega
    have HF := Lib.hid (rfail_any g t tl _ (valE x) w' H2.out.1 hp.1 hp.2)
    have hne : (valE x != 0) = true := by simpa using hx
    have hd : decide (valE x = 0) = false := by simpa using hx
    rw [hd]
    clear hx hd
    generalize valE x = ve at *
    go_wp2_with fail
    refine HF.out.mono ?_
    rintro e w2 ⟨⟨u, rfl⟩, h2, hc⟩
    have HC := Lib.hid (And.intro h2 hc)
    clear h2 hc
    go_wp2
    go_ret
    exact ⟨x, rfl, h0, h1, by rw [HK.out.1]; exact HC.out.1, (fun a l' h => (HK.out.2 a l' h).elim), H2.out.2.2.trans HC.out.2 fun k _ e => e⟩

set_option maxHeartbeats 1000000 in
theorem svalues_any (g : Nat) (t : TypeId) (tl : RTl) (s : St) (w : World) (h : RdrAt w g t tl s) :
    Calls Tryz.prog 158 #[.pointer (some ⟨g, 0, none⟩)] w (BPost pVals g t tl s w) := by
  have HH := Lib.hid h
  have hgw := h.lt
  clear h
  go_enter Tryz.func158, Tryz.ntmps158
  go_wp2_with fail
  refine (rcount_any g t tl s 8 w HH.out (by omega) (by omega)).mono ?_
  rintro e w1 ⟨x, rfl, h0, h1, h2, h3, h4⟩
  obtain ⟨n, rfl⟩ : ∃ n : Nat, x = n := ⟨x.toNat, by omega⟩
  have hs1 := h4.size
  have H2 := Lib.hid (And.intro h2 (And.intro h3 h4))
  clear h2 h3 h4
  go_wp2
  go_loopw [2, 7] (fun v i wr => ∃ (y : List Int) (k : Nat) (sk : St), k ≤ n ∧ i = .int .i64 k ∧ y.length = k ∧ w.heap.size ≤ wr.heap.size ∧ Hid (RdrAt wr g t tl sk ∧ OwnB wr w.heap.size v y ∧ IsBytes y ∧ bd (nx (pCount 8) s) (pV n []) = bd sk (pV (n - k) y) ∧ Chg (fun k => k = g) w wr)) (fun _ i _ => n - (intOf i).toNat)
  case atStart => exact ⟨[], 0, _, by omega, rfl, rfl, hs1, H2.out.1, OwnB.nil _ _, IsBytes.nil, by simp, H2.out.2.2⟩
  case round =>
    obtain ⟨y, k, sk, hk, rfl, hyk, hsz, HX⟩ := hrel
    have HYK := Lib.hid hyk
    clear hyk
    by_cases hlt : k < n
    · have hlt2 : (k : Int) < n := by omega
      go_wp2_with fail
      refine (svalue_any g t tl sk wr HX.out.1).mono ?_
      rintro e w2 ⟨z, rfl, z0, z1, h2, h3, h4⟩
      have hs2 := h4.size
      have H3 : Hid (RdrAt w2 g t tl (nx pVal sk) ∧ OwnB w2 w.heap.size u2 y ∧ IsBytes (y ++ [z]) ∧ bd (nx (pCount 8) s) (pV n []) = bd (nx pVal sk) (pV (n - (k + 1)) (y ++ [z])) ∧ Chg (fun k => k = g) w w2) := by
        obtain ⟨q1, q2, q3, q4, q5⟩ := HX.out
        refine ⟨h2, q2.chg h4 fun i hi e => ?_, q3.app (IsBytes.one z0 (by omega)), ?_, q5.trans h4 fun k _ e => e⟩
        · have := owns_ge q2 hi; omega
        · rw [q4, show n - k = n - (k + 1) + 1 from by omega]
          exact (nx_seq pVal (fun x => pV (n - (k + 1)) (y ++ [x])) sk z h3).2
      clear h2 h3 h4
      go_wp2_with (at_builtin; refine wpList_app1 rfl (.tmp 9) (.tmp 12) rfl w.heap.size u2 y rfl H3.out.2.1 z rfl z0 z1 (by have := HYK.out; omega) (by omega) ?_; intro v1 w3 hv1 hw1; have HV := Lib.hid (And.intro hv1 hw1); clear hv1 hw1)
      go_wp2
      have hs3 := HV.out.2.size
      refine ⟨⟨y ++ [z], k + 1, _, by omega, by go_num, by have := HYK.out; simp; omega, by omega, H3.out.1.below HV.out.2 hgw (by omega), HV.out.1, H3.out.2.2.1, H3.out.2.2.2.1, ?_⟩, ?_⟩
      · exact H3.out.2.2.2.2.trans ⟨HV.out.2.os, HV.out.2.tape, HV.out.2.output, HV.out.2.size, fun i hi hn => HV.out.2.block i (by exact Nat.lt_of_not_le hn)⟩ fun i hi e => by omega
      · simp [intOf]; omega
    · obtain rfl : k = n := by omega
      go_wp2
      go_ret
      obtain ⟨q1, q2, q3, q4, q5⟩ := HX.out
      have e0 : pV (k - k) y = fun l => .ok (y, l) := by rw [Nat.sub_self]; rfl
      rw [e0] at q4
      obtain ⟨k1, k2⟩ := nx_seq (pCount 8) (fun n => pV n.toNat []) s (k : Int) H2.out.2.1
      rw [Int.toNat_natCast] at k1 k2
      refine ⟨_, y, rfl, q2, q3, ?_, (fun a l' h => ?_), q5, by have := HYK.out; omega⟩
      · unfold pVals; rw [k1, nx, q4]; cases sk <;> exact q1
      · unfold pVals at h
        rw [k2, q4] at h
        cases sk with
        | error e => cases h
        | ok l => injection h with h; injection h
end Go.Proofs.YtadgiekiiicmfaaGreatDoor

/- Slices of ints of the call's own, and what is appended to them: what the walks lean on. No function of the program. -/
namespace Go.Proofs.YtadgiekiiicmfaaGreatDoor
open Go.RowKit
set_option maxRecDepth 100000
set_option linter.unusedVariables false

theorem under_ints : Tryz.prog.underlying 170 = some (.slice 3) := Tryz.underlying170
theorem int_info : (Tryz.prog.info? 3).map (fun i => (i.zero, i.size, i.bytes)) = some (some (.int .i64 0), 1, 8) := by kernel_rfl
/-- A slice of ints in a block of the call's own. -/
def OwnI (w : World) (base : Nat) (v : Value) (l : List Int) : Prop := w.ownsRow base 3 1 v l.length (l.map (Value.int .i64))
/-- Ints that are read, in blocks of X. -/
def RdI (X : Nat → Prop) (w : World) (A : Option Addr) (l : List Int) : Prop := RdV X w A (l.map (Value.int .i64))
section
variable {X : Nat → Prop} {w w' : World} {A : Option Addr} {l : List Int} {B : Nat}
theorem RdI.chg {S : Nat → Prop} (h : RdI X w A l) (hc : Chg S w w') (hs : ∀ k, k < w.heap.size → X k → ¬ S k) : RdI X w' A l := RdV.chg h hc hs
theorem RdI.drewN (h : RdI X w A l) (n : Nat) : RdI X (w.drewN n) A l := RdV.drewN h n
theorem RdI.later (h : RdI X w A l) (hc : Below w.heap.size w w') : RdI X w' A l := RdV.later h hc
theorem RdI.mono {Y : Nat → Prop} (h : RdI X w A l) (hx : ∀ k, k < w.heap.size → X k → Y k) : RdI Y w A l := RdV.mono h hx
theorem RdI.nil (X : Nat → Prop) (w : World) (A : Option Addr) : RdI X w A [] := RdV.nil _ _ _
theorem map_i64_get {j : Nat} (hj : j < l.length) : (l.map (Value.int .i64))[j]? = some (.int .i64 (l.getD j 0)) := by
  simp [List.getElem?_eq_getElem hj, List.getD_eq_getElem?_getD]
theorem RdI.spot (h : RdI X w A l) (hp : 0 < l.length) : ∃ b o, A = some ⟨b, o, none⟩ ∧ ∀ j, j < l.length → w.cell? ⟨b, o + j, none⟩ = some (.int .i64 (l.getD j 0)) := by
  obtain ⟨b, o, hA, -, -, hc⟩ := RdV.spot h (by simpa using hp)
  exact ⟨b, o, hA, fun j hj => hc j _ (map_i64_get hj)⟩
end
theorem OwnI.nil (w : World) (base : Nat) : OwnI w base (.slice none 0 0) [] := World.ownsRow_nil w base _ _
theorem OwnI.rdI {w : World} {base : Nat} {v : Value} {l : List Int} (h : OwnI w base v l) : ∃ A c, v = .slice A l.length c ∧ l.length ≤ c ∧ c ≤ maxLen ∧ RdI (fun k => v.ownBlock = some k) w A l := RdV.of_own h
theorem OwnI.chg {S : Nat → Prop} {w w' : World} {base : Nat} {v : Value} {l : List Int} (h : OwnI w base v l) (hc : Chg S w w') (hg : ∀ g, v.ownBlock = some g → ¬ S g) : OwnI w' base v l := owns_chg h hc hg
theorem OwnI.later {w w' : World} {base : Nat} {v : Value} {l : List Int} (h : OwnI w base v l) (hb : Below w.heap.size w w') : OwnI w' base v l := h.chg (S := fun _ => False) (Chg.of_below hb) fun _ _ => id
theorem OwnI.base {w : World} {base base' : Nat} {v : Value} {l : List Int} (h : OwnI w base v l) (hb : base' ≤ base) : OwnI w base' v l := owns_base h hb

/-- The block that was just built for some ints. -/
theorem rdI_lit (w : World) (l : List Int) : RdI (fun k => k = w.heap.size) (w.alloc (.cells (l.map (Value.int .i64)).toArray 3)) (some ⟨w.heap.size, 0, none⟩) l := by
  refine fun j u hu => ⟨_, rfl, by simp, ?_⟩
  have h := (Own.new w 3 (l.map (Value.int .i64))).cell j
  rw [addPlain, Nat.zero_add, h, hu]
/-- append(s, x...), of ints. -/
theorem wpList_appI {X : Nat → Prop} {ops : Array Oper} {rest : List Oper} {o : Oper} {a : Act} {Q : Exit → Act → World → Prop} {w : World} (hgd : o.guard = none) (s x : Operand)
    (ho : o.op = .call { callee := .builtin .append, args := #[s, x], argTypes := #[170, 170] }) (base : Nat) (v : Value) (l : List Int) (hs : a.eval s = v) (hown : OwnI w base v l)
    (A : Option Addr) (m c : Nat) (news : List Int) (hx : a.eval x = .slice A m c) (hm : m = news.length) (hr : RdI X w A news) (hlen : l.length + m ≤ 1000000000) (hbase : base ≤ w.heap.size)
    (h : ∀ v' w', OwnI w' base v' (l ++ news) → Grew v w v' w' → wpList Tryz.prog ops Q rest (a.put o.dst v') w') : wpList Tryz.prog ops Q (o :: rest) a w := by
  subst hm
  refine wpList_appG under_ints int_info rfl (by omega) hgd s x ho base v l.length _ hs hown A news.length c (news.map (Value.int .i64)) hx (by simp) hr (fun u hu => by obtain ⟨z, _, rfl⟩ := List.mem_map.1 hu; rfl) (by simp only [maxLen]; omega) (by omega) hbase fun v' w' h1 h2 h3 => h v' w' ?_ (Grew.of_grown h2 h3)
  unfold OwnI
  simpa using h1
/-- append(s, z): one int more, out of the block that was just built for it. -/
theorem wpList_appI1 {ops : Array Oper} {rest : List Oper} {o : Oper} {a : Act} {Q : Exit → Act → World → Prop} {w : World} (hgd : o.guard = none) (s x : Operand)
    (ho : o.op = .call { callee := .builtin .append, args := #[s, x], argTypes := #[170, 170] }) (base : Nat) (v : Value) (l : List Int) (hs : a.eval s = v) (hown : OwnI w base v l)
    (z : Int) (hx : a.eval x = .slice (some ⟨w.heap.size, 0, none⟩) 1 1) (hlen : l.length + 1 ≤ 1000000000) (hbase : base ≤ w.heap.size)
    (h : ∀ v' w', OwnI w' base v' (l ++ [z]) → Grew v w v' w' → wpList Tryz.prog ops Q rest (a.put o.dst v') w') : wpList Tryz.prog ops Q (o :: rest) a (w.alloc (.cells #[.int .i64 z] 3)) := by
  have hb : Below w.heap.size w (w.alloc (.cells #[.int .i64 z] 3)) := (Below.refl _ _).alloc (Nat.le_refl _) _
  refine wpList_appI hgd s x ho base v l hs (hown.later hb) _ 1 1 [z] hx rfl (rdI_lit w [z]) hlen (by simp; omega) fun v' w' h1 h2 => h v' w' h1 (h2.before hb fun k hk => owns_lt hown hk)
end Go.Proofs.YtadgiekiiicmfaaGreatDoor

/- op.Width, op.Kind and what they call: what an instruction is. -/
namespace Go.Proofs.YtadgiekiiicmfaaGreatDoor
open Go.RowKit
set_option maxRecDepth 100000
set_option linter.unusedVariables false

/-- How many bytes an instruction moves. -/
def wd (x : Int) : Int :=
  if x = 44 ∨ x = 45 ∨ x = 48 ∨ x = 49 ∨ x = 58 ∨ x = 60 then 1
  else if x = 46 ∨ x = 47 ∨ x = 50 ∨ x = 51 ∨ x = 59 ∨ x = 61 then 2
  else if x = 40 ∨ x = 52 ∨ x = 53 ∨ x = 54 ∨ x = 62 then 4
  else if x = 41 ∨ x = 55 then 8 else 0
/-- Of floats and vectors. -/
def fl (x : Int) : Prop := (42 ≤ x ∧ x ≤ 43) ∨ (56 ≤ x ∧ x ≤ 57) ∨ (67 ≤ x ∧ x ≤ 68) ∨ (91 ≤ x ∧ x ≤ 102) ∨ (139 ≤ x ∧ x ≤ 166) ∨ (168 ≤ x ∧ x ≤ 171) ∨ (174 ≤ x ∧ x ≤ 191) ∨ (64512 ≤ x ∧ x ≤ 64519) ∨ x = 253 ∨ (64768 ≤ x ∧ x ≤ 65023)
/-- Of numbers from the stack alone. -/
def nu (x : Int) : Prop := (69 ≤ x ∧ x ≤ 90) ∨ (103 ≤ x ∧ x ≤ 138) ∨ x = 167 ∨ (172 ≤ x ∧ x ≤ 173) ∨ (192 ≤ x ∧ x ≤ 196)
instance (x : Int) : Decidable (fl x) := by unfold fl; infer_instance
instance (x : Int) : Decidable (nu x) := by unfold nu; infer_instance
/-- What stands behind an instruction of one byte that neither reckons nor loads nor stores. -/
def kb (x : Int) : Int × Int :=
  if x = 0 ∨ x = 1 ∨ x = 5 ∨ x = 11 ∨ x = 15 ∨ x = 26 ∨ x = 27 ∨ x = 209 then (0, 0)
  else if x = 12 ∨ x = 13 ∨ x = 16 ∨ x = 32 ∨ x = 33 ∨ x = 34 ∨ x = 35 ∨ x = 36 ∨ x = 37 ∨ x = 38 ∨ x = 63 ∨ x = 64 ∨ x = 210 then (1, 0)
  else if x = 17 then (2, 0)
  else if x = 65 then (3, 0)
  else if x = 66 then (4, 0)
  else if x = 2 ∨ x = 3 ∨ x = 4 then (6, 0)
  else if x = 14 then (7, 0)
  else if x = 28 ∨ x = 208 then (8, 0)
  else (0, 2)
/-- What stands behind an instruction behind the byte 0xfc. -/
def kf (x : Int) : Int × Int :=
  if x = 64521 ∨ x = 64523 ∨ x = 64525 ∨ x = 64527 ∨ x = 64528 ∨ x = 64529 then (1, 0)
  else if x = 64520 ∨ x = 64522 ∨ x = 64524 ∨ x = 64526 then (2, 0)
  else (0, 2)
/-- What stands behind an instruction, or why it is none. -/
def kd (x : Int) : Int × Int := if fl x then (0, 5) else if nu x then (0, 0) else if 0 < wd x then (5, 0) else if 64512 ≤ x then kf x else kb x
def pr (p : Int × Int) : Value := .tuple #[.int .i64 p.1, .int .i64 p.2]

theorem within_any (x a b : Int) (w : World) : Calls Tryz.prog 205 #[.int .i64 x, .int .i64 a, .int .i64 b] w fun e w' => e = .returned (.bool (decide (a ≤ x ∧ x ≤ b))) ∧ w = w' := by
  go_enter Tryz.func205, Tryz.ntmps205
  go_wp2
  all_goals (go_ret; refine ⟨?_, rfl⟩; congr 2; simp_all; try omega)

set_option maxHeartbeats 1000000 in
theorem width_any (x : Int) (w : World) : Calls Tryz.prog 195 #[.int .i64 x] w fun e w' => e = .returned (.int .i64 (wd x)) ∧ w = w' := by
  go_enter Tryz.func195, Tryz.ntmps195
  go_wp2
  all_goals (go_ret; refine ⟨?_, rfl⟩; simp_all [wd])
set_option maxHeartbeats 1000000 in
theorem kindOfByte_any (x : Int) (w : World) : Calls Tryz.prog 197 #[.int .i64 x] w fun e w' => e = .returned (pr (kb x)) ∧ w = w' := by
  go_enter Tryz.func197, Tryz.ntmps197
  go_wp2
  all_goals (go_ret2; refine ⟨?_, rfl⟩; simp_all [kb, pr])
set_option maxHeartbeats 1000000 in
theorem kindBehindFC_any (x : Int) (w : World) : Calls Tryz.prog 196 #[.int .i64 x] w fun e w' => e = .returned (pr (kf x)) ∧ w = w' := by
  go_enter Tryz.func196, Tryz.ntmps196
  go_wp2
  all_goals (go_ret2; refine ⟨?_, rfl⟩; simp_all [kf, pr])
set_option maxHeartbeats 1000000 in
theorem ofNumbers_any (x : Int) (w : World) : Calls Tryz.prog 194 #[.int .i64 x] w fun e w' => e = .returned (.bool (decide (nu x))) ∧ w = w' := by
  go_enter Tryz.func194, Tryz.ntmps194
  go_wp2_with (go_at_call 205; refine (within_any _ _ _ _).mono ?_; rintro e w' ⟨rfl, rfl⟩)
  all_goals (go_ret; refine ⟨?_, rfl⟩; congr 2; simp_all [nu]; try omega)
set_option maxHeartbeats 1000000 in
theorem ofFloats_any (x : Int) (w : World) : Calls Tryz.prog 193 #[.int .i64 x] w fun e w' => e = .returned (.bool (decide (fl x))) ∧ w = w' := by
  go_enter Tryz.func193, Tryz.ntmps193
  go_wp2_with (go_at_call 205; refine (within_any _ _ _ _).mono ?_; rintro e w' ⟨rfl, rfl⟩)
  all_goals (go_ret; refine ⟨?_, rfl⟩; congr 2; simp_all [fl]; try omega)
set_option maxHeartbeats 1000000 in
theorem kind_any (x : Int) (w : World) : Calls Tryz.prog 187 #[.int .i64 x] w fun e w' => e = .returned (pr (kd x)) ∧ w = w' := by
  go_enter Tryz.func187, Tryz.ntmps187
  go_wp2_with (first | (go_at_call 193; refine (ofFloats_any _ _).mono ?_; rintro e w' ⟨rfl, rfl⟩) | (go_at_call 194; refine (ofNumbers_any _ _).mono ?_; rintro e w' ⟨rfl, rfl⟩) | (go_at_call 195; refine (width_any _ _).mono ?_; rintro e w' ⟨rfl, rfl⟩) | (go_at_call 196; refine (kindBehindFC_any _ _).mono ?_; rintro e w' ⟨rfl, rfl⟩; unfold pr) | (go_at_call 197; refine (kindOfByte_any _ _).mono ?_; rintro e w' ⟨rfl, rfl⟩; unfold pr))
  all_goals (go_ret2; refine ⟨?_, rfl⟩; simp_all [kd, pr])
  all_goals (have hw : (0 < wd x) = False := by simp; omega)
  all_goals simp only [hw, if_false, and_self]
  all_goals (have hx : (64512 ≤ x) = False := by simp; omega)
  all_goals simp only [hx, if_false, and_self]
end Go.Proofs.YtadgiekiiicmfaaGreatDoor

/- Instructions as bytes: what reading them comes to, as plain functions. No function of the program. -/
namespace Go.Proofs.YtadgiekiiicmfaaGreatDoor
open Go.RowKit
set_option maxRecDepth 100000
set_option linter.unusedVariables false

/-- A signed number. -/
def pS (bits : Int) : PR Int := fun l => if (rdS bits l).2.2 = 0 then .ok ((rdS bits l).1, l.drop (rdS bits l).2.1.toNat) else .error (rdS bits l).2.2
theorem pS_ok {bits : Int} {l : List Int} {u m : Int} (h : rdS bits l = (u, m, 0)) : pS bits l = .ok (u, l.drop m.toNat) := by simp [pS, h]
theorem pS_no {bits : Int} {l : List Int} {u m e : Int} (h : rdS bits l = (u, m, e)) (he : e ≠ 0) : pS bits l = .error e := by simp [pS, h, he]
theorem sx_range (u n : Int) : -9223372036854775808 ≤ sx u n ∧ sx u n < 9223372036854775808 := by
  unfold sx
  generalize IntKind.u64.wrap _ = y
  have h1 : -9223372036854775808 ≤ wrap64 y ∧ wrap64 y < 9223372036854775808 := by
    constructor <;> · unfold wrap64; omega
  generalize wrap64 y = z at *
  generalize hk : (max 0 (64 - n * 7)).toNat = k
  have hp : (1 : Int) ≤ 2 ^ k := by have : (0 : Int) < 2 ^ k := Int.pow_pos (by omega); omega
  generalize (2 : Int) ^ k = p at *
  constructor
  · rw [Int.le_ediv_iff_mul_le (by omega)]
    omega
  · rw [Int.ediv_lt_iff_lt_mul (by omega)]
    omega
theorem rdS_cases (bits : Int) (h0 : 1 ≤ bits) (hb : bits ≤ 64) (l : List Int) : rdS bits l = (0, 0, 3) ∨ rdS bits l = (0, 0, 2) ∨
    ∃ (u : Int) (m : Nat), rdS bits l = (u, (m : Int), 0) ∧ -9223372036854775808 ≤ u ∧ u < 9223372036854775808 ∧ 1 ≤ m ∧ m ≤ 10 ∧ m ≤ l.length := by
  unfold rdS
  rcases dec_cases bits fitS (by omega) l 0 0 (by omega) with h | h | ⟨u, m, h, h1, h2, h3, h4, h5⟩
  · left; simp [h]
  · right; left; simp [h]
  · right; right
    have := sx_range u m
    exact ⟨sx u m, m, by simp [h], by omega, by omega, h3, by omega, by omega⟩

structure Ins where
  op : Int
  a : Int
  b : Int
  n : Int
  l : List Int
  t : Int
deriving DecidableEq

/-- How many of what an instruction names are numbers. -/
def nums (op : Int) : Int := if op = 63 ∨ op = 64 ∨ op = 64523 ∨ op = 64522 then 0 else if op = 64520 then 1 else 2
def pZero : PR Int := seq pByte fun b l => if b = 0 then .ok (0, l) else .error 2
def pNm (op place : Int) : PR Int := if place < nums op then pU 32 else pZero
def pOp : PR Int := seq pByte fun b => if b = 252 then seq (pU 32) fun n l => if 255 < n then .error 2 else .ok (64512 + n, l) else fun l => .ok (b, l)
def pAl : PR Int := seq (pU 32) fun n l => if 31 < n then .error 2 else .ok (n, l)
/-- A block's type. -/
def pBl : PR Int := fun l => bd (pS 33 l) fun r => if 0 ≤ r.1 then .ok r else if 1 < l.length - r.2.length then .error 2 else if r.1 = -64 then .ok r else if valE (r.1 % 128) = 0 then .ok r else .error (valE (r.1 % 128))
/-- n labels more. -/
def pLb : Nat → List Int → PR (List Int)
  | 0, acc => fun l => .ok (acc, l)
  | n + 1, acc => seq (pU 32) fun x => pLb n (acc ++ [x])
def pLabels : PR (List Int) := seq (pCount 600) fun n => pLb n.toNat []
/-- The type behind select or ref.null. -/
def pTy (op : Int) : PR Int :=
  if op = 28 then seq (pU 32) fun n l => if n = 1 then pVal l else .error 2
  else seq pVal fun t l => if t = 112 ∨ t = 111 then .ok (t, l) else .error 2
def pBh (imm op : Int) : PR Ins :=
  if imm = 1 then seq (pNm op 0) fun a l => .ok (⟨op, a, 0, 0, [], 0⟩, l)
  else if imm = 2 then seq (pNm op 0) fun a => seq (pNm op 1) fun b l => .ok (⟨op, a, b, 0, [], 0⟩, l)
  else if imm = 3 then seq (pS 32) fun x l => .ok (⟨op, 0, 0, x % 4294967296, [], 0⟩, l)
  else if imm = 4 then seq (pS 64) fun x l => .ok (⟨op, 0, 0, x % 18446744073709551616, [], 0⟩, l)
  else if imm = 5 then seq pAl fun a => seq (pU 32) fun b l => .ok (⟨op, a, b, 0, [], 0⟩, l)
  else if imm = 6 then seq pBl fun t l => .ok (⟨op, 0, 0, 0, [], t⟩, l)
  else if imm = 7 then seq pLabels fun ls => seq (pU 32) fun a l => .ok (⟨op, a, 0, 0, ls, 0⟩, l)
  else if imm = 8 then seq (pTy op) fun a l => .ok (⟨op, a, 0, 0, [], 0⟩, l)
  else fun l => .ok (⟨op, 0, 0, 0, [], 0⟩, l)
/-- An instruction. -/
def pIn : PR Ins := seq pOp fun op => if (kd op).2 = 0 then pBh (kd op).1 op else fun _ => .error (kd op).2
/-- What is open behind an instruction, and whether it is the body's end; or why it may not stand there. -/
def nestP (op : Int) (o : List Int) : Except Int (List Int × Bool) :=
  if op = 2 ∨ op = 3 ∨ op = 4 then (if 32 < o.length + 1 then .error 4 else .ok (o ++ [op], false))
  else if op = 5 then (if o.getLast? = some 4 then .ok (o.dropLast ++ [5], false) else .error 2)
  else if op = 11 then (if o = [] then .ok ([], true) else .ok (o.dropLast, false))
  else .ok (o, false)
/-- An instruction, with what is open. -/
def pSt (o : List Int) : PR (Ins × List Int × Bool) := seq pIn fun x l => bd (nestP x.op o) fun r => .ok ((x, r.1, r.2), l)
/-- A body: so many instructions at the most, with what stands ahead. -/
def pBody : Nat → List Int → List Ins → PR (List Ins)
  | 0, _, _ => fun _ => .error 4
  | n + 1, o, acc => seq (pSt o) fun r => if r.2.2 then fun l => .ok (acc ++ [r.1], l) else pBody n r.2.1 (acc ++ [r.1])
def pCode : PR (List Ins) := pBody 600 [] []

/-- A block's type, the document's way. -/
def pBlR : PR Int := fun l => match l with
  | [] => .error 3
  | b :: r => if b = 64 ∨ valE b = 0 then .ok (b - 128, r) else if valE b = 5 then .error 5 else bd (pS 33 l) fun q => if q.1 < 0 then .error 2 else .ok q
theorem rdS33_low (b : Int) (r : List Int) (h0 : 0 ≤ b) (h1 : b < 128) : rdS 33 (b :: r) = (if b < 64 then b else b - 128, 1, 0) := by
  unfold rdS
  have hd : dec 33 fitS (b :: r) 0 0 = (b, 1, 0) := by
    simp only [dec]
    rw [if_neg (by rintro ⟨h, _⟩; omega), if_pos h1]
    simp; omega
  rw [hd]
  have : sx b 1 = if b < 64 then b else b - 128 := by
    unfold sx
    rw [show max 0 (64 - (1 : Int) * 7) = 57 from by omega, show (57 : Int).toNat = 57 from rfl, IntKind.wrap_u64]
    unfold wrap64
    split <;> omega
  simp [this]
theorem dec_more (bits : Int) (fit : Int → Int → Bool) (l : List Int) : ∀ (k : Nat) (x u m : Int), dec bits fit l k x = (u, m, 0) → (k : Int) + 1 ≤ m := by
  induction l with
  | nil => intro k x u m h; simp [dec] at h
  | cons c l ih =>
    intro k x u m h
    simp only [dec] at h
    split at h
    · simp at h
    · split at h
      · simp only [Prod.mk.injEq] at h; omega
      · have := ih _ _ _ _ h; omega
theorem rdS33_high (b : Int) (r : List Int) (h0 : 128 ≤ b) (h1 : b ≤ 255) {u m : Int} (h : rdS 33 (b :: r) = (u, m, 0)) : 2 ≤ m := by
  unfold rdS at h
  have hd : ∃ y, dec 33 fitS (b :: r) 0 0 = dec 33 fitS r 1 y := by
    simp only [dec]
    rw [if_neg (by rintro ⟨h, _⟩; omega), if_neg (by omega)]
    exact ⟨_, rfl⟩
  obtain ⟨y, hy⟩ := hd
  rw [hy] at h
  split at h
  · rename_i hz
    have := dec_more 33 fitS r 1 y _ _ (by rw [← hz])
    have h2 : (dec 33 fitS r 1 y).2.1 = m := congrArg (fun q : Int × Int × Int => q.2.1) h
    rw [← h2]
    simpa using this
  · simp only [Prod.mk.injEq] at h; exact absurd h.2.2 ‹_›
theorem pBl_doc (l : List Int) (hl : ∀ z ∈ l, 0 ≤ z ∧ z ≤ 255) : pBlR l = pBl l := by
  cases l with
  | nil => simp [pBlR, pBl, pS, rdS, dec]
  | cons b r =>
    obtain ⟨h0, h1⟩ := hl b (by simp)
    by_cases hb : b < 128
    · have hd := pS_ok (rdS33_low b r h0 hb)
      unfold pBlR pBl
      rw [hd]
      simp only [bd_ok, show ((1 : Int).toNat) = 1 from rfl, List.drop_succ_cons, List.drop_zero, List.length_cons]
      by_cases h64 : b < 64
      · have hv : valE b = 2 := by unfold valE; rw [if_neg (by omega), if_neg (by omega)]
        simp only [if_pos h64]
        rw [if_neg (by omega), if_neg (by omega), if_neg (by omega), if_pos h0]
      · simp only [if_neg h64]
        rw [if_neg (show ¬ 0 ≤ b - 128 by omega), if_neg (show ¬ 1 < r.length + 1 - r.length by omega), show (b - 128) % 128 = b from by omega]
        by_cases h40 : b = 64
        · subst h40; simp
        · rw [if_neg (show ¬ b - 128 = -64 by omega)]
          rcases valE_cases b with hv | hv | hv <;> rw [hv] <;> simp [h40]
          omega
    · have hv : valE b = 2 := by unfold valE; rw [if_neg (by omega), if_neg (by omega)]
      unfold pBlR pBl
      simp only [hv]
      rw [if_neg (by omega), if_neg (by omega)]
      rcases rdS_cases 33 (by omega) (by omega) (b :: r) with h | h | ⟨u, m, h, h2, h3, h4, h5, h6⟩
      · rw [pS_no h (by omega)]; rfl
      · rw [pS_no h (by omega)]; rfl
      · rw [pS_ok h]
        have hm := rdS33_high b r (by omega) h1 h
        simp only [bd_ok, Int.toNat_natCast]
        by_cases hu : 0 ≤ u
        · rw [if_neg (by omega), if_pos hu]
        · rw [if_pos (by omega), if_neg hu, if_pos]
          rw [List.length_drop]
          omega
end Go.Proofs.YtadgiekiiicmfaaGreatDoor

/- Bytes that are UTF-8: plain mathematics, over the library's validD. -/
namespace Go.Proofs.YtadgiekiiicmfaaGreatDoor
open Go.RowKit
set_option maxRecDepth 100000
set_option linter.unusedVariables false

def u8l (l : List Int) : List UInt8 := l.map fun z => UInt8.ofNat z.toNat
/-- Are these bytes UTF-8? -/
def vd (l : List Int) : Bool := Lib.validD (u8l l)
theorem u8l_len (l : List Int) : (u8l l).length = l.length := by simp [u8l]
theorem u8_toNat {z : Int} (h0 : 0 ≤ z) (h1 : z ≤ 255) : (UInt8.ofNat z.toNat).toNat = z.toNat := by
  rw [UInt8.toNat_ofNat_of_lt' (by simp; omega)]
theorem u8l_get (l : List Int) (hl : IsBytes l) (k : Nat) : ((u8l l).getD k 0).toNat = (l.getD k 0).toNat := by
  unfold u8l
  rw [List.getD_eq_getElem?_getD, List.getD_eq_getElem?_getD, List.getElem?_map]
  cases h : l[k]? with
  | none => rfl
  | some z =>
    obtain ⟨h0, h1⟩ := hl z (List.mem_of_getElem? h)
    simpa using u8_toNat h0 h1
theorem u8l_drop (l : List Int) (k : Nat) : u8l (l.drop k) = (u8l l).drop k := by simp [u8l, List.map_drop]
theorem u8l_take (l : List Int) (k : Nat) : u8l (l.take k) = (u8l l).take k := by simp [u8l, List.map_take]
theorem vd_nil : vd [] = true := rfl
/-- The first k bytes are below 128. -/
def AscI (l : List Int) (k : Nat) : Prop := ∀ z ∈ l.take k, z < 128
theorem vd_skip (l : List Int) (hl : IsBytes l) (k : Nat) (h : AscI l k) : vd (l.drop k) = vd l := by
  unfold vd
  rw [u8l_drop]
  refine (Lib.validD_ascii k (u8l l) fun b hb => ?_).symm
  rw [← u8l_take] at hb
  obtain ⟨z, hz, rfl⟩ := List.mem_map.1 hb
  obtain ⟨h0, h1⟩ := hl z (List.mem_of_mem_take hz)
  have := h z hz
  show (UInt8.ofNat z.toNat).toNat < 128
  rw [u8_toNat h0 h1]
  omega
theorem asc_one (x : Int) (l : List Int) (h : x < 128) : AscI (x :: l) 1 := fun z hz => by simp at hz; omega
theorem asc_add (l : List Int) (a b : Nat) (ha : AscI l a) (hb : AscI (l.drop a) b) : AscI l (a + b) := by
  intro z hz
  rw [List.take_add] at hz
  rcases List.mem_append.1 hz with h | h
  · exact ha z h
  · exact hb z h
theorem vd_lead (l : List Int) (hl : IsBytes l) (hne : l ≠ []) (h0 : 128 ≤ (l.getD 0 0).toNat) :
    vd l = match Lib.checkN l.length (l.getD 1 0).toNat (l.getD 2 0).toNat (l.getD 3 0).toNat (Lib.firstT (l.getD 0 0).toNat % 8) (Lib.accLo (Lib.firstT (l.getD 0 0).toNat / 16)) (Lib.accHi (Lib.firstT (l.getD 0 0).toNat / 16)) with
      | none => false
      | some k => vd (l.drop k) := by
  have hn : u8l l ≠ [] := fun h => hne (List.eq_nil_of_length_eq_zero (by rw [← u8l_len, h]; rfl))
  have := Lib.validD_lead (u8l l) hn (by rw [u8l_get l hl]; exact h0)
  rw [u8l_get l hl, u8l_get l hl, u8l_get l hl, u8l_get l hl, u8l_len] at this
  unfold vd
  rw [this]
  cases Lib.checkN l.length (l.getD 1 0).toNat (l.getD 2 0).toNat (l.getD 3 0).toNat (Lib.firstT (l.getD 0 0).toNat % 8) (Lib.accLo (Lib.firstT (l.getD 0 0).toNat / 16)) (Lib.accHi (Lib.firstT (l.getD 0 0).toNat / 16)) with
  | none => rfl
  | some k => simp only [u8l_drop]
/-- The number that the first eight bytes spell. -/
def wdN (l : List Int) : Nat := Lib.leNat (u8l (l.take 8))
theorem wdN_lt (l : List Int) : wdN l < 18446744073709551616 := by
  have h := Lib.leNat_lt (u8l (l.take 8))
  have h2 : (u8l (l.take 8)).length ≤ 8 := by rw [u8l_len]; simp; omega
  have h3 : 256 ^ (u8l (l.take 8)).length ≤ 256 ^ 8 := Nat.pow_le_pow_right (by omega) h2
  have h4 : (256 : Nat) ^ 8 = 18446744073709551616 := by decide
  unfold wdN
  omega
theorem wdN_asc (l : List Int) (hl : IsBytes l) (h : 8 ≤ l.length) : wdN l &&& 9259542123273814144 = 0 ↔ AscI l 8 := by
  have h2 : (u8l (l.take 8)).length = 8 := by rw [u8l_len]; simp; omega
  have := Lib.leNat_mask (u8l (l.take 8))
  rw [h2, Lib.maskN8] at this
  unfold wdN
  rw [this]
  constructor
  · intro hh z hz
    obtain ⟨h0, h1⟩ := hl z (List.mem_of_mem_take hz)
    have := hh (UInt8.ofNat z.toNat) (List.mem_map_of_mem hz)
    rw [u8_toNat h0 h1] at this
    omega
  · intro hh b hb
    obtain ⟨z, hz, rfl⟩ := List.mem_map.1 hb
    obtain ⟨h0, h1⟩ := hl z (List.mem_of_mem_take hz)
    have := hh z hz
    show (UInt8.ofNat z.toNat).toNat < 128
    rw [u8_toNat h0 h1]
    omega
theorem wdN_eq (x0 x1 x2 x3 x4 x5 x6 x7 : Int) (l : List Int) (h : IsBytes (x0 :: x1 :: x2 :: x3 :: x4 :: x5 :: x6 :: x7 :: l)) :
    ((wdN (x0 :: x1 :: x2 :: x3 :: x4 :: x5 :: x6 :: x7 :: l) : Nat) : Int) = x0 + x1 * 256 + x2 * 65536 + x3 * 16777216 + x4 * 4294967296 + x5 * 1099511627776 + x6 * 281474976710656 + x7 * 72057594037927936 := by
  have g0 := h x0 (by simp); have g1 := h x1 (by simp); have g2 := h x2 (by simp); have g3 := h x3 (by simp)
  have g4 := h x4 (by simp); have g5 := h x5 (by simp); have g6 := h x6 (by simp); have g7 := h x7 (by simp)
  simp only [wdN, u8l, List.take_succ_cons, List.take_zero, List.map_cons, List.map_nil, Lib.leNat]
  rw [u8_toNat g0.1 g0.2, u8_toNat g1.1 g1.2, u8_toNat g2.1 g2.2, u8_toNat g3.1 g3.2, u8_toNat g4.1 g4.2, u8_toNat g5.1 g5.2, u8_toNat g6.1 g6.2, u8_toNat g7.1 g7.2]
  omega
end Go.Proofs.YtadgiekiiicmfaaGreatDoor
