/- Texts joined: Twin, Kept, Rows1, LawCTakes, RowsB. -/
import Derived.Test.YtdbbcbffmbcjiaaJoin16
import Derived.Test.YtdbbcbffmbcjiaaJoin1
import Derived.Test.YtdbbcbffmbcjiaaJoin11
import Derived.OpenShut
import Derived.Deep.Fields
import Derived.Lib.SmallJoins
/- What the statements' own helpers come to: a twin with spare room, and whether it is as it was. -/
namespace Go.Proofs.Ytdbbcbffmbcjiaa
open Go.RowKit
set_option maxRecDepth 100000
set_option linter.unusedVariables false

def twinL (l : List Int) : List Int := l ++ [229, 229, 229]

set_option maxHeartbeats 1000000 in
theorem twin_any (A : Option Addr) (l : List Int) (n c : Nat) (w : World) (h : Rd w w.heap.size A l) (hn : n = l.length) (hl : n ≤ 1000000) :
    Calls Try.prog 8 #[.slice A n c] w fun e w' => e = .returned (.slice (some ⟨w.heap.size, 0, none⟩) n (n + 3)) ∧ Own w' w.heap.size 5 (l.map (Value.int .u8) ++ [.int .u8 229, .int .u8 229, .int .u8 229]) ∧ Below w.heap.size w w' := by
  have hmk := fun W => run_make_row' (P := Try.prog) 22 5 (.int .u8 0) 1 under_bytes byte_info rfl .i64 .i64 (n + 3) (by omega) (by omega) W
  rw [show ((n + 3 : Nat) : Int) = (n : Int) + 3 from by omega] at hmk
  have HN := Lib.hid hn
  clear hn
  have HR := Lib.hid h
  clear h
  obtain ⟨cs, hcs⟩ : ∃ cs, cs = l.map (Value.int .u8) := ⟨_, rfl⟩
  have HC := Lib.hid hcs
  clear hcs
  go_enter Try.func8, Try.ntmps8
  go_wp2_with (with_reducible refine wpList_copy_splice rfl (.tmp 9) (.tmp 10) 22 22 rfl 5 under_bytes byte_size (some ⟨w.heap.size, 0, none⟩) A (n + 3) (n + 3) n c rfl rfl w.heap.size 0 (List.replicate (n + 3) (.int .u8 0)) 5 ?_ cs ?_ ?_ ?_ ?_ w.heap.size w ?_ ?_ ?_)
  case refine_1 =>
    rw [heap_alloc_new]
    congr 2
    rw [show madeCells #[Value.int .u8 0] (n + 3) = Array.replicate (n + 3) (.int .u8 0) from made_one _ _]
    simp
  case refine_2 => rw [HC.out, List.length_map, ← HN.out]; exact (Nat.min_eq_left (by omega)).symm
  case refine_3 =>
    intro hp
    rw [HC.out, List.length_map] at hp
    obtain ⟨ad, rfl, hb, _⟩ := HR.out.2 0 hp
    refine ⟨ad, rfl, fun j v hv => ?_⟩
    rw [World.cell?_alloc_lt w _ _ (by rw [addBlock]; exact hb)]
    rw [HC.out, List.getElem?_map] at hv
    obtain ⟨z, hz, rfl⟩ := Option.map_eq_some_iff.1 hv
    have hj : j < l.length := (List.getElem?_eq_some_iff.1 hz).1
    obtain ⟨ad', e, _, hc⟩ := HR.out.2 j hj
    have e := Option.some.inj e
    subst e
    rw [hc, List.getD_eq_getElem?_getD, hz]
    rfl
  case refine_4 => rw [HC.out]; simp; rw [← HN.out]; omega
  case refine_5 => rw [HC.out]; intro v hv; obtain ⟨z, _, rfl⟩ := List.mem_map.1 hv; rfl
  case refine_6 => exact (Below.refl _ _).alloc (Nat.le_refl _) _
  case refine_7 => exact Nat.le_refl _
  case refine_8 =>
    intro w1 h1 hb1
    have hL : splice (List.replicate (n + 3) (Value.int .u8 0)) 0 cs = cs ++ [.int .u8 0, .int .u8 0, .int .u8 0] := by
      unfold splice
      rw [HC.out]
      simp only [List.take_zero, List.nil_append, Nat.zero_add, List.length_map, ← HN.out, List.drop_replicate, show n + 3 - n = 3 from by omega]
      rfl
    have HO := Lib.hid (show Own w1 w.heap.size 5 (cs ++ [.int .u8 0, .int .u8 0, .int .u8 0]) by rw [← hL]; exact h1.out)
    have HL := Lib.hid (show cs.length = n by rw [HC.out, List.length_map, ← HN.out])
    clear hL h1 hmk
    go_wp2
    go_loopw [4] (fun i wr => ∃ (k : Nat) (L : List Value), n ≤ k ∧ k ≤ n + 3 ∧ i = .int .i64 k ∧ Hid (L.length = n + 3 ∧ L.take n = cs ∧ (∀ j, n ≤ j → j < k → L[j]? = some (.int .u8 229)) ∧ Own wr w.heap.size 5 L ∧ Below w.heap.size w wr)) (fun i _ => n + 3 - (intOf i).toNat)
    case atStart =>
      exact ⟨n, _, Nat.le_refl _, by omega, rfl, by simp [HL.out], by rw [List.take_left' HL.out], fun j h1 h2 => by omega, HO.out, hb1⟩
    case round =>
      obtain ⟨k, L, hk1, hk2, rfl, HX⟩ := hrel
      obtain ⟨x1, x2, x3, x4, x5⟩ := HX.out
      by_cases hlt : k < n + 3
      · have hc : wr.cell? ⟨w.heap.size, k, none⟩ = some (L.getD k .nilFunc) := by
          rw [x4.cell, List.getD_eq_getElem?_getD, List.getElem?_eq_getElem (by omega)]; rfl
        have hf := x4.frozen k
        have hs := x4.set k (.int .u8 229)
        have HY : Hid ((L.set k (.int .u8 229)).length = n + 3 ∧ (L.set k (.int .u8 229)).take n = cs ∧ (∀ j, n ≤ j → j < k + 1 → (L.set k (.int .u8 229))[j]? = some (.int .u8 229)) ∧ Own (wr.setCell ⟨w.heap.size, k, none⟩ (.int .u8 229)) w.heap.size 5 (L.set k (.int .u8 229)) ∧ Below w.heap.size w (wr.setCell ⟨w.heap.size, k, none⟩ (.int .u8 229))) := by
          refine ⟨by simp [x1], ?_, fun j h1 h2 => ?_, hs, x5.setCell (Nat.le_refl _) _⟩
          · rw [List.take_set_of_le (by omega), x2]
          · by_cases e : j = k
            · subst e; rw [List.getElem?_set_self (by omega)]
            · rw [List.getElem?_set_ne (by omega)]; exact x3 j h1 (by omega)
        clear HX x1 x2 x3 x4 x5 hs HO hb1
        go_wp2
        exact ⟨⟨k + 1, _, by omega, by omega, by go_num, HY⟩, by simp [intOf]; omega⟩
      · have hk : k = n + 3 := by omega
        have HY : Hid (Own wr w.heap.size 5 (l.map (Value.int .u8) ++ [.int .u8 229, .int .u8 229, .int .u8 229]) ∧ Below w.heap.size w wr) := by
          refine ⟨?_, x5⟩
          rw [← HC.out, ← x2]
          have e : L = L.take n ++ [.int .u8 229, .int .u8 229, .int .u8 229] := by
            apply List.ext_getElem?
            intro i
            by_cases hi : i < n
            · rw [List.getElem?_append_left (by simp; omega), List.getElem?_take_of_lt hi]
            · rw [List.getElem?_append_right (by simp; omega)]
              simp only [List.length_take, x1]
              by_cases h3 : i < n + 3
              · rw [x3 i (by omega) (by omega)]
                rcases (show i - min n (n + 3) = 0 ∨ i - min n (n + 3) = 1 ∨ i - min n (n + 3) = 2 by omega) with h | h | h <;> rw [h] <;> rfl
              · rw [List.getElem?_eq_none (by omega), List.getElem?_eq_none (by simp; omega)]
          rw [← e]
          exact x4
        have HK := Lib.hid hk
        clear hk HX x1 x2 x3 x4 x5 HO hb1
        go_wp2
        go_ret
        exact ⟨rfl, HY.out⟩
end Go.Proofs.Ytdbbcbffmbcjiaa

/- A twin that is as it was is told so. -/
namespace Go.Proofs.Ytdbbcbffmbcjiaa
open Go.RowKit
set_option maxRecDepth 100000
set_option linter.unusedVariables false

theorem kept_any (g : Nat) (A : Option Addr) (l : List Int) (n c : Nat) (w : World) (h : Rd w w.heap.size A l) (hn : n = l.length) (hl : n ≤ 1000000)
    (ho : Own w g 5 (l.map (Value.int .u8) ++ [.int .u8 229, .int .u8 229, .int .u8 229])) :
    Calls Try.prog 12 #[.slice (some ⟨g, 0, none⟩) n (n + 3), .slice A n c] w fun e w' => e = .returned (.bool true) ∧ w = w' := by
  have hs1 := (ho.rd h.1).string (n + 3)
  have hs2 := h.string c
  rw [← hn] at hs1 hs2
  have heq : ((strOfNums l).toList == (strOfNums l).toList) = true := by simp
  have h0 : w.cell? ⟨g, n, none⟩ = some (.int .u8 229) := by
    rw [ho.cell, List.getElem?_append_right (by simp; omega)]; simp [← hn]
  have h1 : w.cell? ⟨g, n + 1, none⟩ = some (.int .u8 229) := by
    rw [ho.cell, List.getElem?_append_right (by simp; omega)]; simp [← hn]
  have h2 : w.cell? ⟨g, n + 2, none⟩ = some (.int .u8 229) := by
    rw [ho.cell, List.getElem?_append_right (by simp; omega)]; simp [← hn]
  have HC : Hid (∀ k, n ≤ k → k < n + 3 → w.cell? ⟨g, k, none⟩ = some (.int .u8 229)) := by
    intro k a b
    rcases (show k = n ∨ k = n + 1 ∨ k = n + 2 by omega) with rfl | rfl | rfl
    · exact h0
    · exact h1
    · exact h2
  clear h0 h1 h2 ho hn h
  go_enter Try.func12, Try.ntmps12
  go_wp2
  go_loop [6] (fun i => ∃ k : Nat, n ≤ k ∧ k ≤ n + 3 ∧ i = .int .i64 k) (fun i => n + 3 - (intOf i).toNat)
  case atStart => exact ⟨n, Nat.le_refl _, by omega, rfl⟩
  case round =>
    obtain ⟨k, hk1, hk2, rfl⟩ := hrel
    by_cases hlt : k < n + 3
    · have hc := HC.out k hk1 hlt
      go_wp2
      exact ⟨⟨k + 1, by omega, by omega, by go_num⟩, by simp [intOf]; omega⟩
    · go_wp2
      go_ret
      exact ⟨rfl, rfl⟩
end Go.Proofs.Ytdbbcbffmbcjiaa

/- From a slice of bytes that came in to what it reads as. -/
namespace Go.Proofs.Ytdbbcbffmbcjiaa
open Go.RowKit
set_option maxRecDepth 100000
set_option linter.unusedVariables false

theorem u8_of_wf {n : Int} (h : (Lit.int .u8 n).wf = true) : 0 ≤ n ∧ n ≤ 255 := by
  simp [Lit.wf, IntKind.min, IntKind.max, IntKind.signed, IntKind.bits] at h
  omega
theorem u16_of_wf {n : Int} (h : (Lit.int .u16 n).wf = true) : 0 ≤ n ∧ n ≤ 65535 := by
  simp [Lit.wf, IntKind.min, IntKind.max, IntKind.signed, IntKind.bits] at h
  omega
theorem u64_of_wf {n : Int} (h : (Lit.int .u64 n).wf = true) : 0 ≤ n ∧ n < 18446744073709551616 := by
  simp [Lit.wf, IntKind.min, IntKind.max, IntKind.signed, IntKind.bits] at h
  omega
theorem i64_of_wf {n : Int} (h : (Lit.int .i64 n).wf = true) : -9223372036854775808 ≤ n ∧ n < 9223372036854775808 := by
  simp [Lit.wf, IntKind.min, IntKind.max, IntKind.signed, IntKind.bits] at h
  omega
theorem u32_of_wf {n : Int} (h : (Lit.int .u32 n).wf = true) : 0 ≤ n ∧ n < 4294967296 := by
  simp [Lit.wf, IntKind.min, IntKind.max, IntKind.signed, IntKind.bits] at h
  omega
theorem i32_of_wf {n : Int} (h : (Lit.int .i32 n).wf = true) : -2147483648 ≤ n ∧ n < 2147483648 := by
  simp [Lit.wf, IntKind.min, IntKind.max, IntKind.signed, IntKind.bits] at h
  omega

theorem lt_of_cell {w : World} {a : Addr} {v : Value} (h : w.cell? a = some v) : a.block < w.heap.size := by
  rcases Nat.lt_or_ge a.block w.heap.size with hlt | hge
  · exact hlt
  · unfold World.cell? at h
    rw [Array.getElem?_eq_none hge] at h
    simp at h

/-- A slice of bytes that came in reads as its elements. -/
theorem rd_of_row {w : World} {a : Option Addr} {len cap : Nat} {zs : List Int}
    (h : (a = none ∧ len = 0 ∧ cap = 0 ∧ zs = []) ∨ ∃ x, a = some x ∧ len ≤ cap ∧ cap ≤ maxLen ∧ zs.length = cap ∧ (∀ i, i < zs.length → w.cell? (x.add i) = some (.int .u8 (zs.getD i 0))) ∧ ∀ n ∈ zs, (Lit.int .u8 n).wf = true) :
    ∃ l, len = l.length ∧ Rd w w.heap.size a l ∧ len ≤ maxLen := by
  rcases h with ⟨rfl, rfl, rfl, rfl⟩ | ⟨x, rfl, h1, h2, h3, h4, h5⟩
  · exact ⟨[], rfl, Rd.nil _ _ _, by simp⟩
  · refine ⟨zs.take len, by simp; omega, ⟨fun z hz => u8_of_wf (h5 z (List.mem_of_mem_take hz)), fun j hj => ?_⟩, by omega⟩
    have hj' : j < zs.length := by simp at hj; omega
    have hjl : j < len := by simp at hj; omega
    have hc := h4 j hj'
    refine ⟨x, rfl, ?_, ?_⟩
    · have := lt_of_cell hc; rwa [addBlock] at this
    · rw [hc]
      simp [List.getD_eq_getElem?_getD, List.getElem?_take_of_lt hjl]
end Go.Proofs.Ytdbbcbffmbcjiaa

/- The walk of CodeTakes. -/
namespace Go.Proofs.Ytdbbcbffmbcjiaa
open Go.RowKit
set_option maxRecDepth 100000
set_option linter.unusedVariables false

set_option maxHeartbeats 2000000 in
theorem codeTakes_core (A : Option Addr) (l : List Int) (n c : Nat) (w : World) (h : Rd w w.heap.size A l) (hn : n = l.length) (hl : n ≤ maxLen) (hnc : n ≤ c) (hcm : c ≤ maxLen) :
    Calls Try.prog 3 #[.slice A n c] w fun e w' => e = .returned (.bool true) ∧ Below w.heap.size w w' := by
  have HR := Lib.hid h
  have HN := Lib.hid hn
  have HC := Lib.hid (And.intro hnc hcm)
  clear h hn hnc hcm
  unfold maxLen at hl
  by_cases h20 : 400 < n
  · go_enter Try.func3, Try.ntmps3
    go_wp2_with fail
    refine (begun6_any w).mono ?_
    rintro e w1 ⟨rfl, hb1⟩
    have HB1 := Lib.hid hb1
    clear hb1
    go_wp2
    go_ret
    exact ⟨rfl, HB1.out⟩
  · go_enter Try.func3, Try.ntmps3
    go_wp2_with fail
    refine (begun6_any w).mono ?_
    rintro e w1 ⟨rfl, hb1⟩
    have HR1 := Lib.hid (HR.out.later hb1)
    have HB1 := Lib.hid hb1
    clear hb1
    go_wp2_with fail
    refine (twin_any A l n c w1 HR1.out HN.out (by omega)).mono ?_
    rintro e w2 ⟨rfl, ho, hb2⟩
    have HO := Lib.hid ho
    have HT := Lib.hid ((show Own w2 w1.heap.size 5 (l.map (Value.int .u8) ++ [.int .u8 229, .int .u8 229, .int .u8 229]) from ho).rd HR.out.1)
    have HR2 := Lib.hid (HR1.out.later hb2)
    have HB2 := Lib.hid (HB1.out.trans (hb2.mono HB1.out.size))
    clear ho hb2 HR HR1 HB1
    have hm : n + 3 ≤ maxLen := by simp only [maxLen]; omega
    have C1 := Lib.hid (ctake_any _ l n (n + 3) w2 HT.out HN.out (by omega) (by omega) hm)
    go_wp2_with fail
    refine C1.out.mono ?_
    rintro e w3 ⟨v, is, rfl, p1, p2, p3, p4⟩
    obtain ⟨A1, k1, rfl, -, -, -⟩ := RdV.of_own p1.1
    have H3 := Lib.hid (And.intro p1 (And.intro p2 p3))
    have C2 := Lib.hid (rtake_any A l n c w3 (HR2.out.later p3) HN.out (by omega) HC.out.1 HC.out.2)
    clear p1 p2 p3 C1 p4
    generalize hq1 : is.length = q1 at *
    clear hq1
    go_wp2_with fail
    refine C2.out.mono ?_
    rintro e w4 ⟨v, js, rfl, p1, p2, p3, p4⟩
    obtain ⟨A2, k2, rfl, -, -, -⟩ := RdV.of_own p1.1
    have HEQ : Hid (bodyX is = bodyX js) := by unfold Hid bodyX; rw [H3.out.2.1, p2]
    have C3 := Lib.hid (rsame_any _ _ is js w4 (H3.out.1.rd.later p3) p1.rd)
    have hd : decide (bodyX is = bodyX js) = true := by simpa using HEQ.out
    rw [hd] at C3
    have HB4 : Hid (Below w2.heap.size w2 w4) := H3.out.2.2.trans (p3.mono H3.out.2.2.size)
    clear p1 p2 p3 p4 C2 hd HEQ
    generalize hq2 : js.length = q2 at *
    clear hq2
    generalize tkN l (pCode l) = tn at *
    generalize tkE (pCode l) = te at *
    have he1 : (te == te) = true := by simp
    have he2 : (tn == tn) = true := by simp
    go_wp2_with fail
    refine C3.out.mono ?_
    rintro e w5 ⟨rfl, hb5⟩
    have HB5 : Hid (Below w2.heap.size w2 w5) := HB4.out.trans (hb5.mono HB4.out.size)
    have C4 := Lib.hid (kept_any w1.heap.size A l n c w5 (HR2.out.later HB5.out) HN.out (by omega) (HO.out.later HB5.out))
    clear hb5 C3 HB4
    go_wp2_with fail
    refine C4.out.mono ?_
    rintro e w6 ⟨rfl, rfl⟩
    go_wp2
    go_ret
    exact ⟨rfl, HB2.out.trans (HB5.out.mono HB2.out.size)⟩
end Go.Proofs.Ytdbbcbffmbcjiaa

/- From slices of bytes that came in to what they read as. -/
namespace Go.Proofs.Ytdbbcbffmbcjiaa
open Go.RowKit Go.ChangeShapes Go.WideShapes Go.Joins Go.Deep
set_option maxRecDepth 100000
set_option linter.unusedVariables false

section
variable {H : Type} {enc : TypeId × Value → H} {W : World}
theorem open_byt1 {fuel : Nat} {v : Value} {x : DataW H × List MemPlace} (h : DataW.trod enc Try.prog W 0 (fun _ => true) true fuel 22 [v] = some x) :
    ∃ A c l, v = .slice A l.length c ∧ l.length ≤ c ∧ c ≤ maxLen ∧ RdX (· < W.heap.size) W A l := by
  rcases open_ints Try.underlying22 Try.underlying5 (by kernel_rfl) h with ⟨hcs, _⟩ | ⟨x, l, c, zs, hcs, _, hl, hm, hz, _, hcell, hwz⟩
  · simp at hcs
    subst hcs
    exact ⟨none, 0, [], rfl, by simp, by simp, RdX.nil _ _ _⟩
  · simp at hcs
    subst hcs
    have hzl : zs.length = c := by simpa using hz
    refine ⟨some x, c, zs.take l, by rw [List.length_take, hzl, Nat.min_eq_left hl], by rw [List.length_take]; omega, hm, fun z hzz => u8_of_wf (hwz z (List.mem_of_mem_take hzz)), fun j u hu => ?_⟩
    rw [List.getElem?_map] at hu
    obtain ⟨z, hz', rfl⟩ := Option.map_eq_some_iff.1 hu
    have hjl : j < l := by have := (List.getElem?_eq_some_iff.1 hz').1; rw [List.length_take] at this; omega
    have hc := hcell j (by omega)
    rw [List.getElem?_take_of_lt hjl] at hz'
    rw [List.getD_eq_getElem?_getD, hz'] at hc
    exact ⟨x, rfl, by have := lt_of_cell hc; rwa [addBlock] at this, hc⟩
theorem open_byt2 {b0 : Nat} {v : Value} {d : DataW H} {p : List MemPlace} (hv : Value.okWide Try.prog W .any b0 22 v) (h : DataW.Trod enc Try.prog W 0 (fun _ => true) true 22 v d p) :
    ∃ A c l, v = .slice A l.length c ∧ l.length ≤ c ∧ c ≤ maxLen ∧ RdX (· < W.heap.size) W A l := by
  obtain ⟨a0, len0, cap0, rfl⟩ := okWide_slice Try.underlying22 hv
  obtain ⟨fuel, hf⟩ := h
  exact open_byt1 (by simpa [Value.cells] using hf)
end
end Go.Proofs.Ytdbbcbffmbcjiaa
