/- What the statements' own helpers come to: a twin with spare room, and whether it is as it was. -/
import Derived.Test.YtnjbijndfbobbaaMade
namespace Go.Proofs.Ytnjbijndfbobbaa
open Go.RowKit
set_option maxRecDepth 100000
set_option linter.unusedVariables false

def twinL (l : List Int) : List Int := l ++ [229, 229, 229]

set_option maxHeartbeats 1000000 in
theorem twin_any (A : Option Addr) (l : List Int) (n c : Nat) (w : World) (h : Rd w w.heap.size A l) (hn : n = l.length) (hl : n ≤ 1000000) :
    Calls Try.prog 14 #[.slice A n c] w fun e w' => e = .returned (.slice (some ⟨w.heap.size, 0, none⟩) n (n + 3)) ∧ Own w' w.heap.size 5 (l.map (Value.int .u8) ++ [.int .u8 229, .int .u8 229, .int .u8 229]) ∧ Below w.heap.size w w' := by
  have hmk := fun W => run_make_row' (P := Try.prog) 23 5 (.int .u8 0) 1 under_bytes byte_info rfl .i64 .i64 (n + 3) (by omega) (by omega) W
  rw [show ((n + 3 : Nat) : Int) = (n : Int) + 3 from by omega] at hmk
  have HN := Lib.hid hn
  clear hn
  have HR := Lib.hid h
  clear h
  obtain ⟨cs, hcs⟩ : ∃ cs, cs = l.map (Value.int .u8) := ⟨_, rfl⟩
  have HC := Lib.hid hcs
  clear hcs
  go_enter Try.func14, Try.ntmps14
  go_wp2_with (with_reducible refine wpList_copy_splice rfl (.tmp 9) (.tmp 10) 23 23 rfl 5 under_bytes byte_size (some ⟨w.heap.size, 0, none⟩) A (n + 3) (n + 3) n c rfl rfl w.heap.size 0 (List.replicate (n + 3) (.int .u8 0)) 5 ?_ cs ?_ ?_ ?_ ?_ w.heap.size w ?_ ?_ ?_)
  case refine_1 =>
    rw [heap_alloc_new]
    congr 2
    rw [show madeCells #[Value.int .u8 0] (n + 3) = Array.replicate (n + 3) (.int .u8 0) from made_one _ _]
    simp
  case refine_2 => rw [HC.out, List.length_map, ← HN.out]; exact (Nat.min_eq_left (by omega)).symm
  case refine_3 =>
    intro hp
    rw [HC.out, List.length_map] at hp
    obtain ⟨ad, rfl, hb, _⟩ := HR.out.2 0 hp
    refine ⟨ad, rfl, fun j v hv => ?_⟩
    rw [World.cell?_alloc_lt w _ _ (by rw [addBlock]; exact hb)]
    rw [HC.out, List.getElem?_map] at hv
    obtain ⟨z, hz, rfl⟩ := Option.map_eq_some_iff.1 hv
    have hj : j < l.length := (List.getElem?_eq_some_iff.1 hz).1
    obtain ⟨ad', e, _, hc⟩ := HR.out.2 j hj
    have e := Option.some.inj e
    subst e
    rw [hc, List.getD_eq_getElem?_getD, hz]
    rfl
  case refine_4 => rw [HC.out]; simp; rw [← HN.out]; omega
  case refine_5 => rw [HC.out]; intro v hv; obtain ⟨z, _, rfl⟩ := List.mem_map.1 hv; rfl
  case refine_6 => exact (Below.refl _ _).alloc (Nat.le_refl _) _
  case refine_7 => exact Nat.le_refl _
  case refine_8 =>
    intro w1 h1 hb1
    have hL : splice (List.replicate (n + 3) (Value.int .u8 0)) 0 cs = cs ++ [.int .u8 0, .int .u8 0, .int .u8 0] := by
      unfold splice
      rw [HC.out]
      simp only [List.take_zero, List.nil_append, Nat.zero_add, List.length_map, ← HN.out, List.drop_replicate, show n + 3 - n = 3 from by omega]
      rfl
    have HO := Lib.hid (show Own w1 w.heap.size 5 (cs ++ [.int .u8 0, .int .u8 0, .int .u8 0]) by rw [← hL]; exact h1.out)
    have HL := Lib.hid (show cs.length = n by rw [HC.out, List.length_map, ← HN.out])
    clear hL h1 hmk
    go_wp2
    go_loopw [4] (fun i wr => ∃ (k : Nat) (L : List Value), n ≤ k ∧ k ≤ n + 3 ∧ i = .int .i64 k ∧ Hid (L.length = n + 3 ∧ L.take n = cs ∧ (∀ j, n ≤ j → j < k → L[j]? = some (.int .u8 229)) ∧ Own wr w.heap.size 5 L ∧ Below w.heap.size w wr)) (fun i _ => n + 3 - (intOf i).toNat)
    case atStart =>
      exact ⟨n, _, Nat.le_refl _, by omega, rfl, by simp [HL.out], by rw [List.take_left' HL.out], fun j h1 h2 => by omega, HO.out, hb1⟩
    case round =>
      obtain ⟨k, L, hk1, hk2, rfl, HX⟩ := hrel
      obtain ⟨x1, x2, x3, x4, x5⟩ := HX.out
      by_cases hlt : k < n + 3
      · have hc : wr.cell? ⟨w.heap.size, k, none⟩ = some (L.getD k .nilFunc) := by
          rw [x4.cell, List.getD_eq_getElem?_getD, List.getElem?_eq_getElem (by omega)]; rfl
        have hf := x4.frozen k
        have hs := x4.set k (.int .u8 229)
        have HY : Hid ((L.set k (.int .u8 229)).length = n + 3 ∧ (L.set k (.int .u8 229)).take n = cs ∧ (∀ j, n ≤ j → j < k + 1 → (L.set k (.int .u8 229))[j]? = some (.int .u8 229)) ∧ Own (wr.setCell ⟨w.heap.size, k, none⟩ (.int .u8 229)) w.heap.size 5 (L.set k (.int .u8 229)) ∧ Below w.heap.size w (wr.setCell ⟨w.heap.size, k, none⟩ (.int .u8 229))) := by
          refine ⟨by simp [x1], ?_, fun j h1 h2 => ?_, hs, x5.setCell (Nat.le_refl _) _⟩
          · rw [List.take_set_of_le (by omega), x2]
          · by_cases e : j = k
            · subst e; rw [List.getElem?_set_self (by omega)]
            · rw [List.getElem?_set_ne (by omega)]; exact x3 j h1 (by omega)
        clear HX x1 x2 x3 x4 x5 hs HO hb1
        go_wp2
        exact ⟨⟨k + 1, _, by omega, by omega, by go_num, HY⟩, by simp [intOf]; omega⟩
      · have hk : k = n + 3 := by omega
        have HY : Hid (Own wr w.heap.size 5 (l.map (Value.int .u8) ++ [.int .u8 229, .int .u8 229, .int .u8 229]) ∧ Below w.heap.size w wr) := by
          refine ⟨?_, x5⟩
          rw [← HC.out, ← x2]
          have e : L = L.take n ++ [.int .u8 229, .int .u8 229, .int .u8 229] := by
            apply List.ext_getElem?
            intro i
            by_cases hi : i < n
            · rw [List.getElem?_append_left (by simp; omega), List.getElem?_take_of_lt hi]
            · rw [List.getElem?_append_right (by simp; omega)]
              simp only [List.length_take, x1]
              by_cases h3 : i < n + 3
              · rw [x3 i (by omega) (by omega)]
                rcases (show i - min n (n + 3) = 0 ∨ i - min n (n + 3) = 1 ∨ i - min n (n + 3) = 2 by omega) with h | h | h <;> rw [h] <;> rfl
              · rw [List.getElem?_eq_none (by omega), List.getElem?_eq_none (by simp; omega)]
          rw [← e]
          exact x4
        have HK := Lib.hid hk
        clear hk HX x1 x2 x3 x4 x5 HO hb1
        go_wp2
        go_ret
        exact ⟨rfl, HY.out⟩
end Go.Proofs.Ytnjbijndfbobbaa
