/- Two numbers' lists, requests, replies: are they the same? -/
import Derived.Test.YtnjbijndfbobbaaPut3
import Derived.Test.YtnjbijndfbobbaaReplyTake
import Derived.Deep.QuietTactic
import Derived.BigQuiet
import Derived.Deep.Cut
namespace Go.Proofs.Ytnjbijndfbobbaa
open Go.RowKit
set_option maxRecDepth 100000
set_option linter.unusedVariables false

theorem getD_ne {a b : List Int} {k : Nat} (hk : k < a.length) (h : a.getD k 0 ≠ b.getD k 0) : a ≠ b := fun e => h (by rw [e])
theorem take_eq_step {a b : List Int} {k : Nat} (hl : a.length = b.length) (hk : k < a.length) (h : a.take k = b.take k) (he : a.getD k 0 = b.getD k 0) : a.take (k + 1) = b.take (k + 1) := by
  rw [List.take_add_one, List.take_add_one, h]
  rw [List.getD_eq_getElem?_getD, List.getD_eq_getElem?_getD, List.getElem?_eq_getElem hk, List.getElem?_eq_getElem (by omega)] at he
  simp only [Option.getD_some] at he
  rw [List.getElem?_eq_getElem hk, List.getElem?_eq_getElem (show k < b.length by omega), he]

set_option maxHeartbeats 1000000 in
theorem sameNums_any {X Y : Nat → Prop} (A B : Option Addr) (a b : List Int) (n m c d : Nat) (w : World) (ha : RdU X w A a) (hb : RdU Y w B b) (hn : n = a.length) (hm : m = b.length) (hnl : n ≤ maxLen) (hml : m ≤ maxLen) :
    Calls Try.prog 24 #[.slice A n c, .slice B m d] w fun e w' => e = .returned (.bool (decide (a = b))) ∧ ∃ j, w' = w.drewN j := by
  have HA := Lib.hid (And.intro ha hn)
  have HB := Lib.hid (And.intro hb hm)
  clear ha hb hn hm
  unfold maxLen at hnl hml
  by_cases hl : n = m
  · subst hl
    go_enter Try.func24, Try.ntmps24
    go_wp2
    go_loopw [5] (fun i wr => ∃ (k j : Nat), k ≤ n ∧ i = .int .i64 k ∧ Hid (a.take k = b.take k) ∧ wr = w.drewN j) (fun i _ => n - (intOf i).toNat)
    case atStart => exact ⟨0, 0, by omega, rfl, rfl, rfl⟩
    case round =>
      obtain ⟨k, j, hk, rfl, HX, rfl⟩ := hrel
      by_cases hlt : k < n
      · have hlt2 : (k : Int) < n := by omega
        have hka : k < a.length := by rw [← HA.out.2]; exact hlt
        have hkb : k < b.length := by rw [← HB.out.2]; exact hlt
        obtain ⟨ba, oa, rfl, hca, x0, x1⟩ := HA.out.1.at_ hka
        obtain ⟨bb, ob, rfl, hcb, y0, y1⟩ := HB.out.1.at_ hkb
        have HS := Lib.hid (fun he => take_eq_step (by rw [← HA.out.2, ← HB.out.2]) hka HX.out he)
        have HN := Lib.hid (fun (h : a.getD k 0 ≠ b.getD k 0) => getD_ne hka h)
        generalize a.getD k 0 = x at *
        generalize b.getD k 0 = y at *
        clear hka hkb
        by_cases hxy : x = y
        · subst hxy
          have HS2 := Lib.hid (HS.out rfl)
          have hne : (x != x) = false := by simp
          clear HS HN
          go_wp2
          go_quiet (fail)
          go_wp2
          refine ⟨⟨k + 1, j + nq, by omega, by go_num, HS2, rfl⟩, ?_⟩
          simp [intOf]; omega
        · have hne : (x != y) = true := by simpa using hxy
          have HN2 := Lib.hid (HN.out hxy)
          clear HS HN hxy
          go_wp2
          go_quiet (fail)
          go_wp2
          go_ret
          exact ⟨by simp [HN2.out], j + nq, by simp⟩
      · obtain rfl : k = n := by omega
        go_wp2
        go_ret
        refine ⟨?_, j, rfl⟩
        have := HX.out
        rw [List.take_of_length_le (by rw [← HA.out.2]; omega), List.take_of_length_le (by rw [← HB.out.2]; omega)] at this
        simp [this]
  · have hne : ((n : Int) != m) = true := by simp; omega
    have HNE : Hid (a ≠ b) := fun e => by have := HA.out.2; have := HB.out.2; rw [e] at *; omega
    clear hl
    go_enter Try.func24, Try.ntmps24
    go_wp2
    go_ret
    exact ⟨by simp [HNE.out], 0, rfl⟩
set_option maxHeartbeats 1000000 in
theorem equalNums_any {X Y : Nat → Prop} (A B : Option Addr) (a b : List Int) (n m c d : Nat) (w : World) (ha : RdU X w A a) (hb : RdU Y w B b) (hn : n = a.length) (hm : m = b.length) (hnl : n ≤ maxLen) (hml : m ≤ maxLen) :
    Calls Try.prog 68 #[.slice A n c, .slice B m d] w fun e w' => e = .returned (.bool (decide (a = b))) ∧ ∃ j, w' = w.drewN j := by
  have HA := Lib.hid (And.intro ha hn)
  have HB := Lib.hid (And.intro hb hm)
  clear ha hb hn hm
  unfold maxLen at hnl hml
  by_cases hl : n = m
  · subst hl
    go_enter Try.func68, Try.ntmps68
    go_wp2
    go_loopw [13] (fun i wr => ∃ (k j : Nat), k ≤ n ∧ i = .int .i64 k ∧ Hid (a.take k = b.take k) ∧ wr = w.drewN j) (fun i _ => n - (intOf i).toNat)
    case atStart => exact ⟨0, 0, by omega, rfl, rfl, rfl⟩
    case round =>
      obtain ⟨k, j, hk, rfl, HX, rfl⟩ := hrel
      by_cases hlt : k < n
      · have hlt2 : (k : Int) < n := by omega
        have hka : k < a.length := by rw [← HA.out.2]; exact hlt
        have hkb : k < b.length := by rw [← HB.out.2]; exact hlt
        obtain ⟨ba, oa, rfl, hca, x0, x1⟩ := HA.out.1.at_ hka
        obtain ⟨bb, ob, rfl, hcb, y0, y1⟩ := HB.out.1.at_ hkb
        have HS := Lib.hid (fun he => take_eq_step (by rw [← HA.out.2, ← HB.out.2]) hka HX.out he)
        have HN := Lib.hid (fun (h : a.getD k 0 ≠ b.getD k 0) => getD_ne hka h)
        generalize a.getD k 0 = x at *
        generalize b.getD k 0 = y at *
        clear hka hkb
        by_cases hxy : x = y
        · subst hxy
          have HS2 := Lib.hid (HS.out rfl)
          have hne : (x != x) = false := by simp
          clear HS HN
          go_wp2
          go_quiet (fail)
          go_wp2
          refine ⟨⟨k + 1, j + nq, by omega, by go_num, HS2, rfl⟩, ?_⟩
          simp [intOf]; omega
        · have hne : (x != y) = true := by simpa using hxy
          have HN2 := Lib.hid (HN.out hxy)
          clear HS HN hxy
          go_wp2
          go_quiet (fail)
          go_wp2
          go_ret
          exact ⟨by simp [HN2.out], j + nq, by simp⟩
      · obtain rfl : k = n := by omega
        go_wp2
        go_ret
        refine ⟨?_, j, rfl⟩
        have := HX.out
        rw [List.take_of_length_le (by rw [← HA.out.2]; omega), List.take_of_length_le (by rw [← HB.out.2]; omega)] at this
        simp [this]
  · have hne : ((n : Int) != m) = true := by simp; omega
    have HNE : Hid (a ≠ b) := fun e => by have := HA.out.2; have := HB.out.2; rw [e] at *; omega
    clear hl
    go_enter Try.func68, Try.ntmps68
    go_wp2
    go_ret
    exact ⟨by simp [HNE.out], 0, rfl⟩

theorem equalBytes_any {X Y : Nat → Prop} (A B : Option Addr) (a b : List Int) (n m c d : Nat) (w : World) (ha : RdX X w A a) (hb : RdX Y w B b) (hn : n = a.length) (hm : m = b.length) :
    Calls Try.prog 67 #[.slice A n c, .slice B m d] w fun e w' => e = .returned (.bool (decide (a = b))) ∧ w = w' := by
  have h1 := ha.rd.string c
  have h2 := hb.rd.string d
  rw [← hn] at h1
  rw [← hm] at h2
  have he := strOfNums_eq ha.1 hb.1
  have HE := Lib.hid he
  clear ha hb hn hm he
  go_enter Try.func67, Try.ntmps67
  go_wp2
  go_ret
  exact ⟨by rw [← HE.out]; rfl, rfl⟩

/-- Two requests, boxed. -/
def Bx (w : World) (P Q : List Value) (T : TypeId) : World := (w.alloc (.cells P.toArray T)).alloc (.cells Q.toArray T)
theorem Bx.below (w : World) (P Q : List Value) (T : TypeId) : Below w.heap.size w (Bx w P Q T) := ((Below.refl _ _).alloc (Nat.le_refl _) _).alloc (by simp) _
theorem Bx.own1 (w : World) (P Q : List Value) (T : TypeId) : Own (Bx w P Q T) w.heap.size T P := (Own.new w T P).later ((Below.refl _ _).alloc (Nat.le_refl _) _)
theorem Bx.own2 (w : World) (P Q : List Value) (T : TypeId) : Own (Bx w P Q T) (w.heap.size + 1) T Q := by
  have := Own.new (w.alloc (.cells P.toArray T)) T Q
  rwa [show (w.alloc (.cells P.toArray T)).heap.size = w.heap.size + 1 from by simp] at this

set_option maxHeartbeats 2000000 in
theorem sameReq_any {X Y : Nat → Prop} (v u : Value) (q r : Req) (w : World) (hq : ReqV X w v q) (hr : ReqV Y w u r) :
    Calls Try.prog 17 #[v, u] w fun e w' => e = .returned (.bool (decide (q = r))) ∧ Below w.heap.size w w' := by
  obtain ⟨A, c, B, d, rfl, hA, hc1, hc2, hB, hd1, hd2, hok⟩ := hq
  obtain ⟨A', c', B', d', rfl, hA', hc1', hc2', hB', hd1', hd2', hok'⟩ := hr
  have hnm := strOfNums_eq hok.2.2.2.1 hok'.2.2.2.1
  have hbo := strOfNums_eq hA.1 hA'.1
  obtain ⟨kind, token, handle, name, body, args, ticks, other⟩ := q
  obtain ⟨kind', token', handle', name', body', args', ticks', other'⟩ := r
  simp only at *
  generalize hbl : body.length = bl at *
  generalize hbl' : body'.length = bl' at *
  generalize hal : args.length = al at *
  generalize hal' : args'.length = al' at *
  have hbel := Bx.below w [.int .i64 kind, .int .u64 token, .int .u64 handle, .string (strOfNums name), .slice A bl c, .slice B al d, .int .u64 ticks, .int .u64 other] [.int .i64 kind', .int .u64 token', .int .u64 handle', .string (strOfNums name'), .slice A' bl' c', .slice B' al' d', .int .u64 ticks', .int .u64 other'] 26
  have ho1 := Bx.own1 w [.int .i64 kind, .int .u64 token, .int .u64 handle, .string (strOfNums name), .slice A bl c, .slice B al d, .int .u64 ticks, .int .u64 other] [.int .i64 kind', .int .u64 token', .int .u64 handle', .string (strOfNums name'), .slice A' bl' c', .slice B' al' d', .int .u64 ticks', .int .u64 other'] 26
  have ho2 := Bx.own2 w [.int .i64 kind, .int .u64 token, .int .u64 handle, .string (strOfNums name), .slice A bl c, .slice B al d, .int .u64 ticks, .int .u64 other] [.int .i64 kind', .int .u64 token', .int .u64 handle', .string (strOfNums name'), .slice A' bl' c', .slice B' al' d', .int .u64 ticks', .int .u64 other'] 26
  go_enter Try.func17, Try.ntmps17
  go_upto_region 1 with fail
  change Code.wp _ _ _ _ (Bx w [.int .i64 kind, .int .u64 token, .int .u64 handle, .string (strOfNums name), .slice A bl c, .slice B al d, .int .u64 ticks, .int .u64 other] [.int .i64 kind', .int .u64 token', .int .u64 handle', .string (strOfNums name'), .slice A' bl' c', .slice B' al' d', .int .u64 ticks', .int .u64 other'] 26)
  have hA2 := hA.later hbel
  have hA2' := hA'.later hbel
  have hB2 := hB.later hbel
  have hB2' := hB'.later hbel
  generalize Bx w [.int .i64 kind, .int .u64 token, .int .u64 handle, .string (strOfNums name), .slice A bl c, .slice B al d, .int .u64 ticks, .int .u64 other] [.int .i64 kind', .int .u64 token', .int .u64 handle', .string (strOfNums name'), .slice A' bl' c', .slice B' al' d', .int .u64 ticks', .int .u64 other'] 26 = W at *
  obtain ⟨c0, c1, c2, c3, c4, c5, c6, c7, -, -, -, -, -, -, -, -⟩ := own_cells8 ho1
  obtain ⟨k0, k1, k2, k3, k4, k5, k6, k7, -, -, -, -, -, -, -, -⟩ := own_cells8 ho2
  have hs1 := hA2.rd.string c
  have hs2 := hA2'.rd.string c'
  rw [hbl] at hs1
  rw [hbl'] at hs2
  have HS := Lib.hid (sameNums_any B B' args args' al al' d d' W hB2 hB2' hal.symm hal'.symm (by omega) (by omega))
  have HBEL := Lib.hid hbel
  have HNM := Lib.hid (And.intro hnm hbo)
  clear hA hA' hB hB' hA2 hA2' hB2 hB2' hc1 hc2 hd1 hd2 hc1' hc2' hd1' hd2' hok hok' hbl hbl' hal hal' ho1 ho2 hbel hnm hbo
  by_cases h : kind = kind'
  case neg =>
    have b_kind : (kind == kind') = false := by simpa using h
    have HH := Lib.hid h
    clear h
    go_wp2_with (first | (go_at_call 24; refine HS.out.mono ?_; rintro e w' ⟨rfl, j, rfl⟩))
    go_ret
    exact ⟨by simp [HH.out], by first | exact HBEL.out | exact below_drewN' HBEL.out _⟩
  have b_kind : (kind == kind') = true := by simpa using h
  have E_kind := Lib.hid h
  clear h
  by_cases h : token = token'
  case neg =>
    have b_token : (token == token') = false := by simpa using h
    have HH := Lib.hid h
    clear h
    go_wp2_with (first | (go_at_call 24; refine HS.out.mono ?_; rintro e w' ⟨rfl, j, rfl⟩))
    go_ret
    exact ⟨by simp [HH.out], by first | exact HBEL.out | exact below_drewN' HBEL.out _⟩
  have b_token : (token == token') = true := by simpa using h
  have E_token := Lib.hid h
  clear h
  by_cases h : handle = handle'
  case neg =>
    have b_handle : (handle == handle') = false := by simpa using h
    have HH := Lib.hid h
    clear h
    go_wp2_with (first | (go_at_call 24; refine HS.out.mono ?_; rintro e w' ⟨rfl, j, rfl⟩))
    go_ret
    exact ⟨by simp [HH.out], by first | exact HBEL.out | exact below_drewN' HBEL.out _⟩
  have b_handle : (handle == handle') = true := by simpa using h
  have E_handle := Lib.hid h
  clear h
  by_cases h : name = name'
  case neg =>
    have b_name : ((strOfNums name).toList == (strOfNums name').toList) = false := by rw [HNM.out.1]; exact decide_eq_false h
    have HH := Lib.hid h
    clear h
    go_wp2_with (first | (go_at_call 24; refine HS.out.mono ?_; rintro e w' ⟨rfl, j, rfl⟩))
    go_ret
    exact ⟨by simp [HH.out], by first | exact HBEL.out | exact below_drewN' HBEL.out _⟩
  have b_name : ((strOfNums name).toList == (strOfNums name').toList) = true := by rw [HNM.out.1]; exact decide_eq_true h
  have E_name := Lib.hid h
  clear h
  by_cases h : body = body'
  case neg =>
    have b_body : ((strOfNums body).toList == (strOfNums body').toList) = false := by rw [HNM.out.2]; exact decide_eq_false h
    have HH := Lib.hid h
    clear h
    go_wp2_with (first | (go_at_call 24; refine HS.out.mono ?_; rintro e w' ⟨rfl, j, rfl⟩))
    go_ret
    exact ⟨by simp [HH.out], by first | exact HBEL.out | exact below_drewN' HBEL.out _⟩
  have b_body : ((strOfNums body).toList == (strOfNums body').toList) = true := by rw [HNM.out.2]; exact decide_eq_true h
  have E_body := Lib.hid h
  clear h
  by_cases h : args = args'
  case neg =>
    have b_args : decide (args = args') = false := decide_eq_false h
    have HH := Lib.hid h
    clear h
    go_wp2_with (first | (go_at_call 24; refine HS.out.mono ?_; rintro e w' ⟨rfl, j, rfl⟩))
    go_ret
    exact ⟨by simp [HH.out], by first | exact HBEL.out | exact below_drewN' HBEL.out _⟩
  have b_args : decide (args = args') = true := decide_eq_true h
  have E_args := Lib.hid h
  clear h
  by_cases h : ticks = ticks'
  case neg =>
    have b_ticks : (ticks == ticks') = false := by simpa using h
    have HH := Lib.hid h
    clear h
    go_wp2_with (first | (go_at_call 24; refine HS.out.mono ?_; rintro e w' ⟨rfl, j, rfl⟩))
    go_ret
    exact ⟨by simp [HH.out], by first | exact HBEL.out | exact below_drewN' HBEL.out _⟩
  have b_ticks : (ticks == ticks') = true := by simpa using h
  have E_ticks := Lib.hid h
  clear h
  by_cases h : other = other'
  case neg =>
    have b_other : (other == other') = false := by simpa using h
    have HH := Lib.hid h
    clear h
    go_wp2_with (first | (go_at_call 24; refine HS.out.mono ?_; rintro e w' ⟨rfl, j, rfl⟩))
    go_ret
    exact ⟨by simp [HH.out], by first | exact HBEL.out | exact below_drewN' HBEL.out _⟩
  have b_other : (other == other') = true := by simpa using h
  have E_other := Lib.hid h
  clear h
  go_wp2_with (first | (go_at_call 24; refine HS.out.mono ?_; rintro e w' ⟨rfl, j, rfl⟩))
  go_ret
  exact ⟨by simp [E_kind.out, E_token.out, E_handle.out, E_name.out, E_body.out, E_args.out, E_ticks.out, E_other.out], by first | exact HBEL.out | exact below_drewN' HBEL.out _⟩

set_option maxHeartbeats 2000000 in
theorem same_any {X Y : Nat → Prop} (v u : Value) (q r : Req) (w : World) (hq : ReqV X w v q) (hr : ReqV Y w u r) :
    Calls Try.prog 22 #[v, u] w fun e w' => e = .returned (.bool (decide (q = r))) ∧ Below w.heap.size w w' := by
  obtain ⟨A, c, B, d, rfl, hA, hc1, hc2, hB, hd1, hd2, hok⟩ := hq
  obtain ⟨A', c', B', d', rfl, hA', hc1', hc2', hB', hd1', hd2', hok'⟩ := hr
  have hnm := strOfNums_eq hok.2.2.2.1 hok'.2.2.2.1
  have hbo := strOfNums_eq hA.1 hA'.1
  obtain ⟨kind, token, handle, name, body, args, ticks, other⟩ := q
  obtain ⟨kind', token', handle', name', body', args', ticks', other'⟩ := r
  simp only at *
  generalize hbl : body.length = bl at *
  generalize hbl' : body'.length = bl' at *
  generalize hal : args.length = al at *
  generalize hal' : args'.length = al' at *
  have hbel := Bx.below w [.int .i64 kind, .int .u64 token, .int .u64 handle, .string (strOfNums name), .slice A bl c, .slice B al d, .int .u64 ticks, .int .u64 other] [.int .i64 kind', .int .u64 token', .int .u64 handle', .string (strOfNums name'), .slice A' bl' c', .slice B' al' d', .int .u64 ticks', .int .u64 other'] 26
  have ho1 := Bx.own1 w [.int .i64 kind, .int .u64 token, .int .u64 handle, .string (strOfNums name), .slice A bl c, .slice B al d, .int .u64 ticks, .int .u64 other] [.int .i64 kind', .int .u64 token', .int .u64 handle', .string (strOfNums name'), .slice A' bl' c', .slice B' al' d', .int .u64 ticks', .int .u64 other'] 26
  have ho2 := Bx.own2 w [.int .i64 kind, .int .u64 token, .int .u64 handle, .string (strOfNums name), .slice A bl c, .slice B al d, .int .u64 ticks, .int .u64 other] [.int .i64 kind', .int .u64 token', .int .u64 handle', .string (strOfNums name'), .slice A' bl' c', .slice B' al' d', .int .u64 ticks', .int .u64 other'] 26
  go_enter Try.func22, Try.ntmps22
  go_upto_region 1 with fail
  change Code.wp _ _ _ _ (Bx w [.int .i64 kind, .int .u64 token, .int .u64 handle, .string (strOfNums name), .slice A bl c, .slice B al d, .int .u64 ticks, .int .u64 other] [.int .i64 kind', .int .u64 token', .int .u64 handle', .string (strOfNums name'), .slice A' bl' c', .slice B' al' d', .int .u64 ticks', .int .u64 other'] 26)
  have hA2 := hA.later hbel
  have hA2' := hA'.later hbel
  have hB2 := hB.later hbel
  have hB2' := hB'.later hbel
  generalize Bx w [.int .i64 kind, .int .u64 token, .int .u64 handle, .string (strOfNums name), .slice A bl c, .slice B al d, .int .u64 ticks, .int .u64 other] [.int .i64 kind', .int .u64 token', .int .u64 handle', .string (strOfNums name'), .slice A' bl' c', .slice B' al' d', .int .u64 ticks', .int .u64 other'] 26 = W at *
  obtain ⟨c0, c1, c2, c3, c4, c5, c6, c7, -, -, -, -, -, -, -, -⟩ := own_cells8 ho1
  obtain ⟨k0, k1, k2, k3, k4, k5, k6, k7, -, -, -, -, -, -, -, -⟩ := own_cells8 ho2
  have HE := Lib.hid (equalBytes_any A A' body body' bl bl' c c' W hA2 hA2' hbl.symm hbl'.symm)
  have HS := Lib.hid (equalNums_any B B' args args' al al' d d' W hB2 hB2' hal.symm hal'.symm (by omega) (by omega))
  have HBEL := Lib.hid hbel
  have HNM := Lib.hid (And.intro hnm hbo)
  clear hA hA' hB hB' hA2 hA2' hB2 hB2' hc1 hc2 hd1 hd2 hc1' hc2' hd1' hd2' hok hok' hbl hbl' hal hal' ho1 ho2 hbel hnm hbo
  by_cases h : kind = kind'
  case neg =>
    have b_kind : (kind == kind') = false := by simpa using h
    have HH := Lib.hid h
    clear h
    go_wp2_with (first | (go_at_call 67; refine HE.out.mono ?_; rintro e w' ⟨rfl, rfl⟩) | (go_at_call 68; refine HS.out.mono ?_; rintro e w' ⟨rfl, j, rfl⟩))
    go_ret
    exact ⟨by simp [HH.out], by first | exact HBEL.out | exact below_drewN' HBEL.out _⟩
  have b_kind : (kind == kind') = true := by simpa using h
  have E_kind := Lib.hid h
  clear h
  by_cases h : token = token'
  case neg =>
    have b_token : (token == token') = false := by simpa using h
    have HH := Lib.hid h
    clear h
    go_wp2_with (first | (go_at_call 67; refine HE.out.mono ?_; rintro e w' ⟨rfl, rfl⟩) | (go_at_call 68; refine HS.out.mono ?_; rintro e w' ⟨rfl, j, rfl⟩))
    go_ret
    exact ⟨by simp [HH.out], by first | exact HBEL.out | exact below_drewN' HBEL.out _⟩
  have b_token : (token == token') = true := by simpa using h
  have E_token := Lib.hid h
  clear h
  by_cases h : handle = handle'
  case neg =>
    have b_handle : (handle == handle') = false := by simpa using h
    have HH := Lib.hid h
    clear h
    go_wp2_with (first | (go_at_call 67; refine HE.out.mono ?_; rintro e w' ⟨rfl, rfl⟩) | (go_at_call 68; refine HS.out.mono ?_; rintro e w' ⟨rfl, j, rfl⟩))
    go_ret
    exact ⟨by simp [HH.out], by first | exact HBEL.out | exact below_drewN' HBEL.out _⟩
  have b_handle : (handle == handle') = true := by simpa using h
  have E_handle := Lib.hid h
  clear h
  by_cases h : name = name'
  case neg =>
    have b_name : ((strOfNums name).toList == (strOfNums name').toList) = false := by rw [HNM.out.1]; exact decide_eq_false h
    have HH := Lib.hid h
    clear h
    go_wp2_with (first | (go_at_call 67; refine HE.out.mono ?_; rintro e w' ⟨rfl, rfl⟩) | (go_at_call 68; refine HS.out.mono ?_; rintro e w' ⟨rfl, j, rfl⟩))
    go_ret
    exact ⟨by simp [HH.out], by first | exact HBEL.out | exact below_drewN' HBEL.out _⟩
  have b_name : ((strOfNums name).toList == (strOfNums name').toList) = true := by rw [HNM.out.1]; exact decide_eq_true h
  have E_name := Lib.hid h
  clear h
  by_cases h : body = body'
  case neg =>
    have b_body : decide (body = body') = false := decide_eq_false h
    have HH := Lib.hid h
    clear h
    go_wp2_with (first | (go_at_call 67; refine HE.out.mono ?_; rintro e w' ⟨rfl, rfl⟩) | (go_at_call 68; refine HS.out.mono ?_; rintro e w' ⟨rfl, j, rfl⟩))
    go_ret
    exact ⟨by simp [HH.out], by first | exact HBEL.out | exact below_drewN' HBEL.out _⟩
  have b_body : decide (body = body') = true := decide_eq_true h
  have E_body := Lib.hid h
  clear h
  by_cases h : args = args'
  case neg =>
    have b_args : decide (args = args') = false := decide_eq_false h
    have HH := Lib.hid h
    clear h
    go_wp2_with (first | (go_at_call 67; refine HE.out.mono ?_; rintro e w' ⟨rfl, rfl⟩) | (go_at_call 68; refine HS.out.mono ?_; rintro e w' ⟨rfl, j, rfl⟩))
    go_ret
    exact ⟨by simp [HH.out], by first | exact HBEL.out | exact below_drewN' HBEL.out _⟩
  have b_args : decide (args = args') = true := decide_eq_true h
  have E_args := Lib.hid h
  clear h
  by_cases h : ticks = ticks'
  case neg =>
    have b_ticks : (ticks == ticks') = false := by simpa using h
    have HH := Lib.hid h
    clear h
    go_wp2_with (first | (go_at_call 67; refine HE.out.mono ?_; rintro e w' ⟨rfl, rfl⟩) | (go_at_call 68; refine HS.out.mono ?_; rintro e w' ⟨rfl, j, rfl⟩))
    go_ret
    exact ⟨by simp [HH.out], by first | exact HBEL.out | exact below_drewN' HBEL.out _⟩
  have b_ticks : (ticks == ticks') = true := by simpa using h
  have E_ticks := Lib.hid h
  clear h
  by_cases h : other = other'
  case neg =>
    have b_other : (other == other') = false := by simpa using h
    have HH := Lib.hid h
    clear h
    go_wp2_with (first | (go_at_call 67; refine HE.out.mono ?_; rintro e w' ⟨rfl, rfl⟩) | (go_at_call 68; refine HS.out.mono ?_; rintro e w' ⟨rfl, j, rfl⟩))
    go_ret
    exact ⟨by simp [HH.out], by first | exact HBEL.out | exact below_drewN' HBEL.out _⟩
  have b_other : (other == other') = true := by simpa using h
  have E_other := Lib.hid h
  clear h
  go_wp2_with (first | (go_at_call 67; refine HE.out.mono ?_; rintro e w' ⟨rfl, rfl⟩) | (go_at_call 68; refine HS.out.mono ?_; rintro e w' ⟨rfl, j, rfl⟩))
  go_ret
  exact ⟨by simp [E_kind.out, E_token.out, E_handle.out, E_name.out, E_body.out, E_args.out, E_ticks.out, E_other.out], by first | exact HBEL.out | exact below_drewN' HBEL.out _⟩
end Go.Proofs.Ytnjbijndfbobbaa
