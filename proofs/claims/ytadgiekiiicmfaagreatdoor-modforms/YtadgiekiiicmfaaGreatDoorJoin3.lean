/- Texts joined: Cuts, LebRead, LebRead2, Lists. -/
import Derived.Test.YtadgiekiiicmfaaGreatDoorJoin2
import Derived.Test.YtadgiekiiicmfaaGreatDoorJoin0
import Derived.Lib.LazyBuf
/- Pieces of a slice: one equation for each, whatever the capacity. -/
namespace Go.Proofs.YtadgiekiiicmfaaGreatDoor
open Go.RowKit
set_option maxRecDepth 100000
set_option linter.unusedVariables false

/-- Where a piece lies. -/
def PieceOf (A A' : Option Addr) (k : Nat) (sz : Nat) : Prop := ∀ (X : Nat → Prop) (w : World) (vs : List Value), RdV X w A vs → RdV X w A' (vs.drop (k * sz))
theorem add_add' (a : Addr) (i j : Nat) : (a.add i).add j = a.add (i + j) := by
  unfold Addr.add
  by_cases hi : i = 0 <;> by_cases hj : j = 0 <;> simp [hi, hj, Nat.add_assoc]
theorem piece_of (A : Option Addr) (k cap sz : Nat) : ∀ (X : Nat → Prop) (w : World) (vs : List Value), vs.length ≤ cap * sz → RdV X w A vs → RdV X w (if cap = k then A else A.map (·.add (k * sz))) (vs.drop (k * sz)) := by
  intro X w vs hlen h
  by_cases hc : cap = k
  · subst hc
    rw [List.drop_of_length_le hlen]
    exact RdV.nil _ _ _
  · rw [if_neg hc]
    intro j u hu
    rw [List.getElem?_drop] at hu
    obtain ⟨ad, rfl, hX, hcell⟩ := h _ u hu
    exact ⟨ad.add (k * sz), rfl, by rw [addBlock]; exact hX, by rw [add_add']; exact hcell⟩

theorem elem_of {t e : TypeId} (hu : Tryz.prog.underlying t = some (.slice e)) : Tryz.prog.elem t = e := by simp [Program.elem, hu]
section
variable {t e : TypeId} {sz : Nat} (hu : Tryz.prog.underlying t = some (.slice e)) (hinf : (Tryz.prog.info? e).map (·.size) = some sz)
include hu hinf
theorem run_sz (W : World) : (sizeOf (Tryz.prog.elem t)).run Tryz.prog W = .ok sz W := by
  rw [elem_of hu]
  obtain ⟨i, hi, hs⟩ := Option.map_eq_some_iff.1 hinf
  simp [sizeOf, typeInfo, hi, hs]
/-- s[l:h] -/
theorem cut_lh (A : Option Addr) (n cap : Nat) (li hi : Int) (l h : Nat) (m : Nat) (hl : li = l) (hh : hi = h) (hm : m = h - l) (h1 : l ≤ h) (h2 : h ≤ cap) :
    ∃ A' c', (∀ W, (Instr.sliceAt t (.slice A n cap) (some (.int .i64 li)) (some (.int .i64 hi)) none).run Tryz.prog W = .ok (.slice A' m c') W) ∧ c' = cap - l ∧
      ∀ (X : Nat → Prop) (w : World) (vs : List Value), vs.length ≤ cap * sz → RdV X w A vs → RdV X w A' ((vs.drop (l * sz)).take (m * sz)) := by
  subst hl; subst hh; subst hm
  have hu' : Tryz.prog.underlying t = some (.slice (Tryz.prog.elem t)) := by rw [elem_of hu]; exact hu
  refine ⟨if cap = l then A else A.map (·.add (l * sz)), cap - l, fun W => ?_, rfl, fun X w vs hv hr => (piece_of A l cap sz X w vs hv hr).take _⟩
  rw [run_sliceAt_slice W t _ _ _ _ hu', run_slice_lh W t A n cap hu' .i64 .i64 l h (by omega) (by omega) (by omega), run_sz hu hinf]
  simp [Result.andThen, sliced]
/-- s[l:] -/
theorem cut_l (A : Option Addr) (n cap : Nat) (li : Int) (l : Nat) (m : Nat) (hl : li = l) (hm : m = n - l) (h1 : l ≤ n) (h2 : n ≤ cap) :
    ∃ A' c', (∀ W, (Instr.sliceAt t (.slice A n cap) (some (.int .i64 li)) none none).run Tryz.prog W = .ok (.slice A' m c') W) ∧ c' = cap - l ∧
      ∀ (X : Nat → Prop) (w : World) (vs : List Value), vs.length ≤ cap * sz → RdV X w A vs → RdV X w A' (vs.drop (l * sz)) := by
  subst hl; subst hm
  have hu' : Tryz.prog.underlying t = some (.slice (Tryz.prog.elem t)) := by rw [elem_of hu]; exact hu
  refine ⟨if cap = l then A else A.map (·.add (l * sz)), cap - l, fun W => ?_, rfl, fun X w vs hv hr => piece_of A l cap sz X w vs hv hr⟩
  rw [run_sliceAt_slice W t _ _ _ _ hu', run_slice_l W t A n cap hu' .i64 l (by omega) (by omega), run_sz hu hinf]
  simp [Result.andThen, sliced]
/-- s[l:], by a number of whatever kind -/
theorem cut_lK (K : IntKind) (A : Option Addr) (n cap : Nat) (li : Int) (l : Nat) (m : Nat) (hl : li = l) (hm : m = n - l) (h1 : l ≤ n) (h2 : n ≤ cap) :
    ∃ A' c', (∀ W, (Instr.sliceAt t (.slice A n cap) (some (.int K li)) none none).run Tryz.prog W = .ok (.slice A' m c') W) ∧ c' = cap - l ∧
      ∀ (X : Nat → Prop) (w : World) (vs : List Value), vs.length ≤ cap * sz → RdV X w A vs → RdV X w A' (vs.drop (l * sz)) := by
  subst hl; subst hm
  have hu' : Tryz.prog.underlying t = some (.slice (Tryz.prog.elem t)) := by rw [elem_of hu]; exact hu
  refine ⟨if cap = l then A else A.map (·.add (l * sz)), cap - l, fun W => ?_, rfl, fun X w vs hv hr => piece_of A l cap sz X w vs hv hr⟩
  rw [run_sliceAt_slice W t _ _ _ _ hu', run_slice_l W t A n cap hu' K l (by omega) (by omega), run_sz hu hinf]
  simp [Result.andThen, sliced]
/-- s[:h] -/
theorem cut_h (A : Option Addr) (n cap : Nat) (hi : Int) (h : Nat) (hh : hi = h) (h2 : h ≤ cap) :
    ∃ A' c', (∀ W, (Instr.sliceAt t (.slice A n cap) none (some (.int .i64 hi)) none).run Tryz.prog W = .ok (.slice A' h c') W) ∧ c' = cap ∧
      ∀ (X : Nat → Prop) (w : World) (vs : List Value), vs.length ≤ cap * sz → RdV X w A vs → RdV X w A' (vs.take (h * sz)) := by
  subst hh
  have hu' : Tryz.prog.underlying t = some (.slice (Tryz.prog.elem t)) := by rw [elem_of hu]; exact hu
  refine ⟨if cap = 0 then A else A.map (·.add (0 * sz)), cap, fun W => ?_, rfl, fun X w vs hv hr => ?_⟩
  · rw [run_sliceAt_slice W t _ _ _ _ hu', run_slice_h W t A n cap hu' .i64 h (by omega) (by omega), run_sz hu hinf]
    simp [Result.andThen, sliced]
  · have := (piece_of A 0 cap sz X w vs hv hr).take (h * sz)
    simpa using this
end

/-- s[l:h] of bytes -/
theorem cutB_lh (A : Option Addr) (n cap : Nat) (li hi : Int) (l h : Nat) (m : Nat) (hl : li = l) (hh : hi = h) (hm : m = h - l) (h1 : l ≤ h) (h2 : h ≤ cap) :
    ∃ A' c', (∀ W, (Instr.sliceAt 22 (.slice A n cap) (some (.int .i64 li)) (some (.int .i64 hi)) none).run Tryz.prog W = .ok (.slice A' m c') W) ∧ c' = cap - l ∧
      ∀ (X : Nat → Prop) (w : World) (xs : List Int), xs.length ≤ cap → RdX X w A xs → RdX X w A' ((xs.drop l).take m) := by
  obtain ⟨A', c', h1, h2, h3⟩ := cut_lh under_bytes byte_size A n cap li hi l h m hl hh hm h1 h2
  refine ⟨A', c', h1, h2, fun X w xs hx hr => ⟨IsBytes.take (IsBytes.drop hr.1 _) _, ?_⟩⟩
  have := h3 X w _ (by simpa using hx) hr.2
  simpa [List.map_take, List.map_drop] using this
theorem cutB_l (A : Option Addr) (n cap : Nat) (li : Int) (l : Nat) (m : Nat) (hl : li = l) (hm : m = n - l) (h1 : l ≤ n) (h2 : n ≤ cap) :
    ∃ A' c', (∀ W, (Instr.sliceAt 22 (.slice A n cap) (some (.int .i64 li)) none none).run Tryz.prog W = .ok (.slice A' m c') W) ∧ c' = cap - l ∧
      ∀ (X : Nat → Prop) (w : World) (xs : List Int), xs.length ≤ cap → RdX X w A xs → RdX X w A' (xs.drop l) := by
  obtain ⟨A', c', h1, h2, h3⟩ := cut_l under_bytes byte_size A n cap li l m hl hm h1 h2
  refine ⟨A', c', h1, h2, fun X w xs hx hr => ⟨IsBytes.drop hr.1 _, ?_⟩⟩
  have := h3 X w _ (by simpa using hx) hr.2
  simpa [List.map_drop] using this
theorem cutB_lK (K : IntKind) (A : Option Addr) (n cap : Nat) (li : Int) (l : Nat) (m : Nat) (hl : li = l) (hm : m = n - l) (h1 : l ≤ n) (h2 : n ≤ cap) :
    ∃ A' c', (∀ W, (Instr.sliceAt 22 (.slice A n cap) (some (.int K li)) none none).run Tryz.prog W = .ok (.slice A' m c') W) ∧ c' = cap - l ∧
      ∀ (X : Nat → Prop) (w : World) (xs : List Int), xs.length ≤ cap → RdX X w A xs → RdX X w A' (xs.drop l) := by
  obtain ⟨A', c', h1, h2, h3⟩ := cut_lK under_bytes byte_size K A n cap li l m hl hm h1 h2
  refine ⟨A', c', h1, h2, fun X w xs hx hr => ⟨IsBytes.drop hr.1 _, ?_⟩⟩
  have := h3 X w _ (by simpa using hx) hr.2
  simpa [List.map_drop] using this
theorem cutB_h (A : Option Addr) (n cap : Nat) (hi : Int) (h : Nat) (hh : hi = h) (h2 : h ≤ cap) :
    ∃ A' c', (∀ W, (Instr.sliceAt 22 (.slice A n cap) none (some (.int .i64 hi)) none).run Tryz.prog W = .ok (.slice A' h c') W) ∧ c' = cap ∧
      ∀ (X : Nat → Prop) (w : World) (xs : List Int), xs.length ≤ cap → RdX X w A xs → RdX X w A' (xs.take h) := by
  obtain ⟨A', c', h1, h2, h3⟩ := cut_h under_bytes byte_size A n cap hi h hh h2
  refine ⟨A', c', h1, h2, fun X w xs hx hr => ⟨IsBytes.take hr.1 _, ?_⟩⟩
  have := h3 X w _ (by simpa using hx) hr.2
  simpa [List.map_take] using this
end Go.Proofs.YtadgiekiiicmfaaGreatDoor

/- What leb's readers come to, over the given translation: each function's contract. -/
namespace Go.Proofs.YtadgiekiiicmfaaGreatDoor
open Go.RowKit
set_option maxRecDepth 100000
set_option linter.unusedVariables false

theorem noughts_any (g r : Int) (w : World) (hg : 0 ≤ g) (hg2 : g < 128) (hr : 1 ≤ r) (hr2 : r ≤ 7) :
    Calls Tryz.prog 161 #[.int .u8 g, .int .i64 r] w fun e w' => e = .returned (.bool (fitU g r)) ∧ w = w' := by
  unfold fitU
  go_enter Tryz.func161, Tryz.ntmps161
  go_wp2
  go_ret
  exact ⟨rfl, rfl⟩

theorem alike_any (v : Int) (w : World) :
    Calls Tryz.prog 216 #[.int .i64 v] w fun e w' => e = .returned (.bool (v == 0 || v == -1)) ∧ w = w' := by
  go_enter Tryz.func216, Tryz.ntmps216
  go_wp2
  all_goals go_ret
  all_goals exact ⟨by first | rfl | simp [*], rfl⟩

theorem signs_any (g r : Int) (w : World) (hg : 0 ≤ g) (hg2 : g < 128) (hr : 1 ≤ r) (hr2 : r ≤ 7) :
    Calls Tryz.prog 215 #[.int .u8 g, .int .i64 r] w fun e w' => e = .returned (.bool (fitS g r)) ∧ w = w' := by
  unfold fitS
  go_enter Tryz.func215, Tryz.ntmps215
  go_wp2_with fail
  refine (alike_any _ _).mono ?_
  rintro e w' ⟨rfl, rfl⟩
  go_wp2
  go_ret
  exact ⟨rfl, rfl⟩

/-- What 'take' hands back. -/
def three (a b c : IntKind) (r : Int × Int × Int) : Ending := .returned (.tuple #[.int a r.1, .int b r.2.1, .int c r.2.2])

set_option maxHeartbeats 1000000 in
theorem take_any (F : Nat) (hFF : F = 161 ∨ F = 215) (fit : Int → Int → Bool) (A : Option Addr) (l : List Int) (n c : Nat) (bits : Int) (w : World) (h : Rd w w.heap.size A l) (hn : n = l.length) (hl : n ≤ maxLen) (hb : 1 ≤ bits) (hb2 : bits ≤ 64)
    (hF : ∀ g r, 0 ≤ g → g < 128 → 1 ≤ r → r ≤ 7 → Calls Tryz.prog F #[.int .u8 g, .int .i64 r] w fun e w' => e = .returned (.bool (fit g r)) ∧ w = w') :
    Calls Tryz.prog 160 #[.slice A n c, .int .i64 bits, .func (.func F) #[] #[]] w fun e w' => e = three .u64 .i64 .i64 (dec bits fit l 0 0) ∧ w = w' := by
  rcases hFF with rfl | rfl
  all_goals
    have HN := Lib.hid hn
    clear hn
    have HH := Lib.hid hF
    clear hF
    have HR := Lib.hid h
    clear h
    unfold maxLen at hl
    go_enter Tryz.func160, Tryz.ntmps160
    go_wp2
    go_loop [6, 15] (fun v i => ∃ (x : Int) (k : Nat), k ≤ n ∧ 7 * k < bits ∧ 0 ≤ x ∧ x < 2 ^ (k * 7) ∧ Hid (dec bits fit l 0 0 = dec bits fit (l.drop k) k x) ∧ i = .int .i64 k ∧ v = .int .u64 x) (fun _ i => n - (intOf i).toNat)
    case atStart => exact ⟨0, 0, Nat.zero_le _, by omega, by omega, by simp, rfl, rfl, rfl⟩
    case round =>
      obtain ⟨x, k, hk, hk7, hx0, hx1, HD, rfl, rfl⟩ := hrel
      by_cases hlt : k < n
      · have hlt' : k < l.length := by rw [← HN.out]; exact hlt
        obtain ⟨⟨b, o, sp⟩, rfl, hbl, hc⟩ := HR.out.2 k hlt'
        obtain ⟨hc0, hc1⟩ := HR.out.byte hlt'
        have HS := Lib.hid (dec_drop bits fit l k x hlt')
        generalize l.getD k 0 = cc at *
        have ha := and128 cc hc0 hc1
        have HA := Lib.hid (acc_eq x cc k hx0 hx1 (by omega) hc0 hc1)
        have HP := Lib.hid hx1
        clear hx1
        by_cases h7 : bits - k * 7 ≤ 7
        · by_cases h128 : 128 ≤ cc
          · have hres : dec bits fit l 0 0 = (0, 0, 2) := by rw [HD.out, HS.out, if_pos ⟨h7, .inl h128⟩]
            have HQ := Lib.hid hres
            clear hres
            go_wp2
            go_ret3
            exact ⟨by rw [HQ.out]; rfl, rfl⟩
          · by_cases hf : fit (cc % 128) (bits - k * 7) = true
            · have hres : dec bits fit l 0 0 = ((x + cc % 128 * 2 ^ (k * 7)) % 18446744073709551616, (k : Int) + 1, 0) := by
                rw [HD.out, HS.out, if_neg (by simp [hf]; omega), if_pos (by omega)]
              have HQ := Lib.hid hres
              clear hres
              go_wp2_with fail
              refine (HH.out _ _ (by omega) (by omega) (by omega) (by omega)).mono ?_
              rintro e w' ⟨rfl, rfl⟩
              go_wp2
              go_ret3
              refine ⟨?_, rfl⟩
              rw [HQ.out]
              unfold three
              rw [← HA.out]
              rfl
            · have hf' : fit (cc % 128) (bits - k * 7) = false := by simpa using hf
              have hres : dec bits fit l 0 0 = (0, 0, 2) := by rw [HD.out, HS.out, if_pos ⟨h7, .inr hf'⟩]
              have HQ := Lib.hid hres
              clear hres hf
              go_wp2_with fail
              refine (HH.out _ _ (by omega) (by omega) (by omega) (by omega)).mono ?_
              rintro e w' ⟨rfl, rfl⟩
              go_wp2
              go_ret3
              exact ⟨by rw [HQ.out]; rfl, rfl⟩
        · have hbd := acc_bd x cc k hx0 HP.out (by omega) hc0 hc1
          have HB := Lib.hid hbd
          clear hbd
          by_cases h128 : cc < 128
          · have hres : dec bits fit l 0 0 = ((x + cc % 128 * 2 ^ (k * 7)) % 18446744073709551616, (k : Int) + 1, 0) := by
              rw [HD.out, HS.out, if_neg (by omega), if_pos h128]
            have HQ := Lib.hid hres
            clear hres
            go_wp2
            go_ret3
            refine ⟨?_, rfl⟩
            rw [HQ.out]
            unfold three
            rw [← HA.out]
            rfl
          · have hres : dec bits fit l 0 0 = dec bits fit (l.drop (k + 1)) (k + 1) ((x + cc % 128 * 2 ^ (k * 7)) % 18446744073709551616) := by
              rw [HD.out, HS.out, if_neg (by omega), if_neg h128]
            have HQ := Lib.hid hres
            clear hres
            go_wp2
            rw [HA.out]
            refine ⟨⟨_, k + 1, by omega, by omega, HB.out.1, HB.out.2, HQ, by go_num, rfl⟩, ?_⟩
            simp [intOf]; omega
      · have hres : dec bits fit l 0 0 = (0, 0, 3) := by
          rw [HD.out, List.drop_of_length_le (by rw [← HN.out]; omega)]; rfl
        have HQ := Lib.hid hres
        clear hres
        go_wp2
        go_ret3
        exact ⟨by rw [HQ.out]; rfl, rfl⟩
end Go.Proofs.YtadgiekiiicmfaaGreatDoor

/- What leb's signed readers and their like come to. -/
namespace Go.Proofs.YtadgiekiiicmfaaGreatDoor
open Go.RowKit
set_option maxRecDepth 100000
set_option linter.unusedVariables false

theorem takeSigned_any (A : Option Addr) (l : List Int) (n c : Nat) (bits : Int) (w : World) (h : Rd w w.heap.size A l) (hn : n = l.length) (hl : n ≤ maxLen) (hb : 1 ≤ bits) (hb2 : bits ≤ 64) :
    Calls Tryz.prog 213 #[.slice A n c, .int .i64 bits] w fun e w' => e = three .i64 .i64 .i64 (rdS bits l) ∧ w = w' := by
  have HT := Lib.hid (take_any 215 (.inr rfl) fitS A l n c bits w h hn hl hb hb2 (fun g r h1 h2 h3 h4 => signs_any g r w h1 h2 h3 h4))
  have HC := Lib.hid (dec_cases bits fitS hb2 l 0 0 (by omega))
  have HN := Lib.hid hn
  clear hn h
  unfold rdS
  generalize dec bits fitS l 0 0 = d at *
  go_enter Tryz.func213, Tryz.ntmps213
  go_wp2_with fail
  refine HT.out.mono ?_
  unfold three
  rintro e w' ⟨rfl, rfl⟩
  clear HT
  rcases HC.out with rfl | rfl | ⟨u, m, rfl, h1, h2, h3, h4, h5⟩
  · clear HC
    go_wp2
    go_ret3
    exact ⟨rfl, rfl⟩
  · clear HC
    go_wp2
    go_ret3
    exact ⟨rfl, rfl⟩
  · clear HC
    by_cases h : (m : Int) * 7 < 64
    · have HX := Lib.hid (sx_lt u m h)
      go_wp2
      go_ret3
      refine ⟨?_, rfl⟩
      have et : (64 - (m : Int) * 7).toNat = 64 - m * 7 := by omega
      simp [three, HX.out, et]
    · have HX := Lib.hid (sx_ge u m (by omega))
      go_wp2
      go_ret3
      refine ⟨?_, rfl⟩
      have eu : IntKind.u64.wrap u = u := by rw [IntKind.wrap_u64]; omega
      simp [three, HX.out, eu]

/-- The number alone turned. -/
def on1 (f : Int → Int) (r : Int × Int × Int) : Int × Int × Int := (f r.1, r.2.1, r.2.2)

theorem U32_any (A : Option Addr) (l : List Int) (n c : Nat) (w : World) (h : Rd w w.heap.size A l) (hn : n = l.length) (hl : n ≤ maxLen) :
    Calls Tryz.prog 120 #[.slice A n c] w fun e w' => e = three .u32 .i64 .i64 (on1 IntKind.u32.wrap (rdU 32 l)) ∧ w = w' := by
  have HT := Lib.hid (take_any 161 (.inl rfl) fitU A l n c 32 w h hn hl (by omega) (by omega) (fun g r h1 h2 h3 h4 => noughts_any g r w h1 h2 h3 h4))
  clear hn h
  unfold rdU
  generalize dec 32 fitU l 0 0 = d at *
  obtain ⟨d1, d2, d3⟩ := d
  unfold three on1 at *
  go_enter Tryz.func120, Tryz.ntmps120
  go_wp2_with fail
  refine HT.out.mono ?_
  rintro e w' ⟨rfl, rfl⟩
  go_wp2
  go_ret3
  exact ⟨rfl, rfl⟩

theorem S64_any (A : Option Addr) (l : List Int) (n c : Nat) (w : World) (h : Rd w w.heap.size A l) (hn : n = l.length) (hl : n ≤ maxLen) :
    Calls Tryz.prog 210 #[.slice A n c] w fun e w' => e = three .i64 .i64 .i64 (rdS 64 l) ∧ w = w' := by
  have HT := Lib.hid (takeSigned_any A l n c 64 w h hn hl (by omega) (by omega))
  clear hn h
  generalize rdS 64 l = d at *
  obtain ⟨d1, d2, d3⟩ := d
  unfold three at *
  go_enter Tryz.func210, Tryz.ntmps210
  go_wp2_with fail
  refine HT.out.mono ?_
  rintro e w' ⟨rfl, rfl⟩
  go_wp2
  go_ret3
  exact ⟨rfl, rfl⟩

theorem S33_any (A : Option Addr) (l : List Int) (n c : Nat) (w : World) (h : Rd w w.heap.size A l) (hn : n = l.length) (hl : n ≤ maxLen) :
    Calls Tryz.prog 214 #[.slice A n c] w fun e w' => e = three .i64 .i64 .i64 (rdS 33 l) ∧ w = w' := by
  have HT := Lib.hid (takeSigned_any A l n c 33 w h hn hl (by omega) (by omega))
  clear hn h
  generalize rdS 33 l = d at *
  obtain ⟨d1, d2, d3⟩ := d
  unfold three at *
  go_enter Tryz.func214, Tryz.ntmps214
  go_wp2_with fail
  refine HT.out.mono ?_
  rintro e w' ⟨rfl, rfl⟩
  go_wp2
  go_ret3
  exact ⟨rfl, rfl⟩

theorem S32_any (A : Option Addr) (l : List Int) (n c : Nat) (w : World) (h : Rd w w.heap.size A l) (hn : n = l.length) (hl : n ≤ maxLen) :
    Calls Tryz.prog 208 #[.slice A n c] w fun e w' => e = three .i32 .i64 .i64 (on1 wrap32 (rdS 32 l)) ∧ w = w' := by
  have HT := Lib.hid (takeSigned_any A l n c 32 w h hn hl (by omega) (by omega))
  clear hn h
  generalize rdS 32 l = d at *
  obtain ⟨d1, d2, d3⟩ := d
  unfold three on1 at *
  go_enter Tryz.func208, Tryz.ntmps208
  go_wp2_with fail
  refine HT.out.mono ?_
  rintro e w' ⟨rfl, rfl⟩
  go_wp2
  go_ret3
  exact ⟨rfl, rfl⟩
end Go.Proofs.YtadgiekiiicmfaaGreatDoor

/- Lists of lists of bytes in memory. No function of the program but bytes.Clone. -/
namespace Go.Proofs.YtadgiekiiicmfaaGreatDoor
open Go.RowKit
set_option maxRecDepth 100000
set_option linter.unusedVariables false

theorem bytes_info : (Tryz.prog.info? 22).map (fun i => (i.zero, i.size, i.bytes)) = some (some (.slice none 0 0), 1, 24) := by kernel_rfl

def All2 {α : Type} (P : Value → α → Prop) (vs : List Value) (ls : List α) : Prop := vs.length = ls.length ∧ ∀ (j : Nat) (u : Value) (x : α), vs[j]? = some u → ls[j]? = some x → P u x
section
variable {α : Type} {P Q : Value → α → Prop} {vs us : List Value} {ls ms : List α}
theorem All2.nil : All2 P [] ([] : List α) := ⟨rfl, fun j u x h => by simp at h⟩
theorem All2.mono (h : All2 P vs ls) (hp : ∀ u x, P u x → Q u x) : All2 Q vs ls := ⟨h.1, fun j u x hu hx => hp u x (h.2 j u x hu hx)⟩
theorem All2.monoMem (h : All2 P vs ls) (hp : ∀ u x, u ∈ vs → P u x → Q u x) : All2 Q vs ls := ⟨h.1, fun j u x hu hx => hp u x (List.mem_of_getElem? hu) (h.2 j u x hu hx)⟩
theorem All2.app (h : All2 P vs ls) (k : All2 P us ms) : All2 P (vs ++ us) (ls ++ ms) := by
  refine ⟨by simp [h.1, k.1], fun j u x hu hx => ?_⟩
  by_cases hj : j < vs.length
  · rw [List.getElem?_append_left hj] at hu
    rw [List.getElem?_append_left (by rw [← h.1]; exact hj)] at hx
    exact h.2 j u x hu hx
  · rw [List.getElem?_append_right (by omega)] at hu
    rw [List.getElem?_append_right (by rw [← h.1]; omega), ← h.1] at hx
    exact k.2 _ u x hu hx
theorem All2.one {u : Value} {x : α} (h : P u x) : All2 P [u] [x] := ⟨rfl, fun j v y hv hy => by
  cases j with
  | zero => simp at hv hy; subst hv; subst hy; exact h
  | succ j => simp at hv⟩
theorem All2.get (h : All2 P vs ls) {j : Nat} (hj : j < ls.length) : ∃ u x, vs[j]? = some u ∧ ls[j]? = some x ∧ P u x := by
  have h1 : vs[j]? = some (vs[j]'(by rw [h.1]; exact hj)) := List.getElem?_eq_getElem _
  have h2 : ls[j]? = some ls[j] := List.getElem?_eq_getElem hj
  exact ⟨_, _, h1, h2, h.2 j _ _ h1 h2⟩
end

/-- A list of lists of bytes in rows of the call's own, in blocks of X. -/
def OwnL (X : Nat → Prop) (w : World) (v : Value) (ls : List (List Int)) : Prop :=
  ∃ vs, w.ownsRow 0 22 1 v vs.length vs ∧ (∀ g, v.ownBlock = some g → X g) ∧ All2 (fun u l => OwnB w 0 u l ∧ IsBytes l ∧ ∀ g, u.ownBlock = some g → X g) vs ls
/-- A list of lists of bytes that is read. -/
def RdL (X : Nat → Prop) (w : World) (v : Value) (ls : List (List Int)) : Prop :=
  ∃ A c vs, v = .slice A ls.length c ∧ ls.length ≤ c ∧ c ≤ maxLen ∧ RdV X w A vs ∧ All2 (fun u l => ∃ B d, u = .slice B l.length d ∧ l.length ≤ d ∧ d ≤ maxLen ∧ RdX X w B l) vs ls

section
variable {X Y : Nat → Prop} {w w' : World} {v : Value} {ls : List (List Int)}
theorem OwnL.nil (X : Nat → Prop) (w : World) : OwnL X w (.slice none 0 0) [] := ⟨[], World.ownsRow_nil w 0 _ _, fun g h => by simp [Value.ownBlock] at h, All2.nil⟩
theorem OwnL.mono (h : OwnL X w v ls) (hx : ∀ k, k < w.heap.size → X k → Y k) : OwnL Y w v ls := by
  obtain ⟨vs, h1, h2, h3⟩ := h
  exact ⟨vs, h1, fun g hg => hx g (owns_lt h1 hg) (h2 g hg), h3.mono fun u l ⟨a, b, c⟩ => ⟨a, b, fun g hg => hx g (owns_lt a hg) (c g hg)⟩⟩
theorem OwnL.chg {S : Nat → Prop} (h : OwnL X w v ls) (hc : Chg S w w') (hs : ∀ k, k < w.heap.size → X k → ¬ S k) : OwnL X w' v ls := by
  obtain ⟨vs, h1, h2, h3⟩ := h
  exact ⟨vs, owns_chg h1 hc fun g hg => hs g (owns_lt h1 hg) (h2 g hg), h2, h3.mono fun u l ⟨a, b, c⟩ => ⟨OwnB.chg a hc fun g hg => hs g (owns_lt a hg) (c g hg), b, c⟩⟩
theorem OwnL.later (h : OwnL X w v ls) (hc : Below w.heap.size w w') : OwnL X w' v ls := h.chg (S := fun _ => False) (Chg.of_below hc) fun _ _ _ => id
theorem OwnL.rd (h : OwnL X w v ls) : RdL X w v ls := by
  obtain ⟨vs, h1, h2, h3⟩ := h
  obtain ⟨A, c, hv, hn, hm, hr⟩ := RdV.of_own h1
  refine ⟨A, c, vs, by rw [hv, h3.1], by rw [← h3.1]; exact hn, hm, hr.mono fun k _ hk => h2 k hk, h3.mono fun u l ⟨a, b, d⟩ => ?_⟩
  obtain ⟨B, e, hu, hl, hm, hx⟩ := a.rdX b
  exact ⟨B, e, hu, hl, hm, hx.mono fun k _ hk => d k hk⟩
theorem OwnL.ne {g : Nat} {t : TypeId} {L : List Value} (h : OwnL X w v ls) (hg : Own w g t L) (hne : 22 ≠ t) : v.ownBlock ≠ some g := by
  obtain ⟨vs, h1, _⟩ := h
  exact owns_ne h1 hg hne
theorem OwnL.neB {base : Nat} {u : Value} {l : List Int} (h : OwnL X w v ls) (hu : OwnB w base u l) {k : Nat} (hk : u.ownBlock = some k) : v.ownBlock ≠ some k := by
  obtain ⟨vs, h1, _⟩ := h
  exact owns_ne2 hu h1 (by decide) hk
theorem RdL.mono (h : RdL X w v ls) (hx : ∀ k, k < w.heap.size → X k → Y k) : RdL Y w v ls := by
  obtain ⟨A, c, vs, h1, h2, h3, h4, h5⟩ := h
  exact ⟨A, c, vs, h1, h2, h3, h4.mono hx, h5.mono fun u l ⟨B, d, a, b, e, f⟩ => ⟨B, d, a, b, e, f.mono hx⟩⟩
theorem RdL.chg {S : Nat → Prop} (h : RdL X w v ls) (hc : Chg S w w') (hs : ∀ k, k < w.heap.size → X k → ¬ S k) : RdL X w' v ls := by
  obtain ⟨A, c, vs, h1, h2, h3, h4, h5⟩ := h
  exact ⟨A, c, vs, h1, h2, h3, h4.chg hc hs, h5.mono fun u l ⟨B, d, a, b, e, f⟩ => ⟨B, d, a, b, e, f.chg hc hs⟩⟩
theorem RdL.later (h : RdL X w v ls) (hc : Below w.heap.size w w') : RdL X w' v ls := h.chg (S := fun _ => False) (Chg.of_below hc) fun _ _ _ => id
theorem RdL.drewN (h : RdL X w v ls) (n : Nat) : RdL X (w.drewN n) v ls := h.later (below_drewN' (Below.refl _ _) n)
theorem OwnL.drewN (h : OwnL X w v ls) (n : Nat) : OwnL X (w.drewN n) v ls := h.later (below_drewN' (Below.refl _ _) n)
/-- One element, where the walk wants it. -/
theorem RdL.at_ {A : Option Addr} {c n : Nat} (h : RdL X w (.slice A n c) ls) {j : Nat} (hj : j < ls.length) : ∃ b o B d, A = some ⟨b, o, none⟩ ∧ X b ∧ b < w.heap.size ∧ w.cell? ⟨b, o + j, none⟩ = some (.slice B (ls.getD j []).length d) ∧ (ls.getD j []).length ≤ d ∧ d ≤ maxLen ∧ RdX X w B (ls.getD j []) := by
  obtain ⟨A', c', vs, h1, h2, h3, h4, h5⟩ := h
  injection h1 with e1 e2 e3
  subst e1
  obtain ⟨u, x, hu, hx, B, d, rfl, hl, hm, hr⟩ := h5.get hj
  obtain ⟨b, o, rfl, hX, hb, hc⟩ := h4.spot (by rw [h5.1]; omega)
  have : ls.getD j [] = x := by rw [List.getD_eq_getElem?_getD, hx]; rfl
  rw [this]
  exact ⟨b, o, B, d, rfl, hX, hb, hc j _ hu, hl, hm, hr⟩
end

attribute [local go_sem] Lib.run_eql_slice_nil
theorem clone_any (A : Option Addr) (l : List Int) (n c : Nat) (w : World) (h : Rd w w.heap.size A l) (hn : n = l.length) (hl : n ≤ 1000000000) (h0 : True := trivial) :
    Calls Tryz.prog 152 #[.slice A n c] w fun e w' => ∃ v, e = .returned v ∧ OwnB w' w.heap.size v l ∧ Below w.heap.size w w' := by
  rcases A with _ | ad
  · clear h0
    have : l = [] := by
      cases l with
      | nil => rfl
      | cons z l => obtain ⟨_, e, _⟩ := h.2 0 (by simp); cases e
    subst this
    subst hn
    go_enter Tryz.func152, Tryz.ntmps152
    go_wp2
    go_ret
    exact ⟨_, rfl, OwnB.nil _ _, Below.refl _ _⟩
  · have HR := Lib.hid h
    have HN := Lib.hid hn
    clear h hn h0
    go_enter Tryz.func152, Tryz.ntmps152
    have hb : Below w.heap.size w (w.alloc (.cells #[] 5)) := (Below.refl _ _).alloc (Nat.le_refl _) _
    go_wp2_with (at_builtin; refine wpList_app rfl (.tmp 5) (.tmp 6) rfl w.heap.size _ [] rfl (ownB_lit0 w) (some ad) n c l rfl HN.out (HR.out.later hb) (by simp; omega) (by simp) ?_; intro v1 w1 hv1 hw1; have HV := Lib.hid (And.intro hv1 (hb.trans hw1)); clear hv1 hw1)
    go_wp2
    go_ret
    exact ⟨_, rfl, HV.out⟩
end Go.Proofs.YtadgiekiiicmfaaGreatDoor
