/- Texts joined: Twin, Rep, ModLoc, ModCode. -/
import Derived.Test.YtadgiekiiicmfaaGreatDoorJoin15
import Derived.Test.YtadgiekiiicmfaaGreatDoorJoin4
import Derived.Lib.MakeNoZero
import Derived.Deep.QuietTactic
import Derived.BigQuiet
import Derived.Deep.RegionLaw
import Derived.Deep.RegionWith
import Derived.Deep.Cut
import Derived.StillTailTactics
/- What the statements' own helpers come to: a twin with spare room, and whether it is as it was. -/
namespace Go.Proofs.YtadgiekiiicmfaaGreatDoor
open Go.RowKit
set_option maxRecDepth 100000
set_option linter.unusedVariables false

def twinL (l : List Int) : List Int := l ++ [229, 229, 229]

set_option maxHeartbeats 1000000 in
theorem twin_any (A : Option Addr) (l : List Int) (n c : Nat) (w : World) (h : Rd w w.heap.size A l) (hn : n = l.length) (hl : n ≤ 1000000) :
    Calls Tryz.prog 8 #[.slice A n c] w fun e w' => e = .returned (.slice (some ⟨w.heap.size, 0, none⟩) n (n + 3)) ∧ Own w' w.heap.size 5 (l.map (Value.int .u8) ++ [.int .u8 229, .int .u8 229, .int .u8 229]) ∧ Below w.heap.size w w' := by
  have hmk := fun W => run_make_row' (P := Tryz.prog) 22 5 (.int .u8 0) 1 under_bytes byte_info rfl .i64 .i64 (n + 3) (by omega) (by omega) W
  rw [show ((n + 3 : Nat) : Int) = (n : Int) + 3 from by omega] at hmk
  have HN := Lib.hid hn
  clear hn
  have HR := Lib.hid h
  clear h
  obtain ⟨cs, hcs⟩ : ∃ cs, cs = l.map (Value.int .u8) := ⟨_, rfl⟩
  have HC := Lib.hid hcs
  clear hcs
  go_enter Tryz.func8, Tryz.ntmps8
  go_wp2_with (with_reducible refine wpList_copy_splice rfl (.tmp 9) (.tmp 10) 22 22 rfl 5 under_bytes byte_size (some ⟨w.heap.size, 0, none⟩) A (n + 3) (n + 3) n c rfl rfl w.heap.size 0 (List.replicate (n + 3) (.int .u8 0)) 5 ?_ cs ?_ ?_ ?_ ?_ w.heap.size w ?_ ?_ ?_)
  case refine_1 =>
    rw [heap_alloc_new]
    congr 2
    rw [show madeCells #[Value.int .u8 0] (n + 3) = Array.replicate (n + 3) (.int .u8 0) from made_one _ _]
    simp
  case refine_2 => rw [HC.out, List.length_map, ← HN.out]; exact (Nat.min_eq_left (by omega)).symm
  case refine_3 =>
    intro hp
    rw [HC.out, List.length_map] at hp
    obtain ⟨ad, rfl, hb, _⟩ := HR.out.2 0 hp
    refine ⟨ad, rfl, fun j v hv => ?_⟩
    rw [World.cell?_alloc_lt w _ _ (by rw [addBlock]; exact hb)]
    rw [HC.out, List.getElem?_map] at hv
    obtain ⟨z, hz, rfl⟩ := Option.map_eq_some_iff.1 hv
    have hj : j < l.length := (List.getElem?_eq_some_iff.1 hz).1
    obtain ⟨ad', e, _, hc⟩ := HR.out.2 j hj
    have e := Option.some.inj e
    subst e
    rw [hc, List.getD_eq_getElem?_getD, hz]
    rfl
  case refine_4 => rw [HC.out]; simp; rw [← HN.out]; omega
  case refine_5 => rw [HC.out]; intro v hv; obtain ⟨z, _, rfl⟩ := List.mem_map.1 hv; rfl
  case refine_6 => exact (Below.refl _ _).alloc (Nat.le_refl _) _
  case refine_7 => exact Nat.le_refl _
  case refine_8 =>
    intro w1 h1 hb1
    have hL : splice (List.replicate (n + 3) (Value.int .u8 0)) 0 cs = cs ++ [.int .u8 0, .int .u8 0, .int .u8 0] := by
      unfold splice
      rw [HC.out]
      simp only [List.take_zero, List.nil_append, Nat.zero_add, List.length_map, ← HN.out, List.drop_replicate, show n + 3 - n = 3 from by omega]
      rfl
    have HO := Lib.hid (show Own w1 w.heap.size 5 (cs ++ [.int .u8 0, .int .u8 0, .int .u8 0]) by rw [← hL]; exact h1.out)
    have HL := Lib.hid (show cs.length = n by rw [HC.out, List.length_map, ← HN.out])
    clear hL h1 hmk
    go_wp2
    go_loopw [4] (fun i wr => ∃ (k : Nat) (L : List Value), n ≤ k ∧ k ≤ n + 3 ∧ i = .int .i64 k ∧ Hid (L.length = n + 3 ∧ L.take n = cs ∧ (∀ j, n ≤ j → j < k → L[j]? = some (.int .u8 229)) ∧ Own wr w.heap.size 5 L ∧ Below w.heap.size w wr)) (fun i _ => n + 3 - (intOf i).toNat)
    case atStart =>
      exact ⟨n, _, Nat.le_refl _, by omega, rfl, by simp [HL.out], by rw [List.take_left' HL.out], fun j h1 h2 => by omega, HO.out, hb1⟩
    case round =>
      obtain ⟨k, L, hk1, hk2, rfl, HX⟩ := hrel
      obtain ⟨x1, x2, x3, x4, x5⟩ := HX.out
      by_cases hlt : k < n + 3
      · have hc : wr.cell? ⟨w.heap.size, k, none⟩ = some (L.getD k .nilFunc) := by
          rw [x4.cell, List.getD_eq_getElem?_getD, List.getElem?_eq_getElem (by omega)]; rfl
        have hf := x4.frozen k
        have hs := x4.set k (.int .u8 229)
        have HY : Hid ((L.set k (.int .u8 229)).length = n + 3 ∧ (L.set k (.int .u8 229)).take n = cs ∧ (∀ j, n ≤ j → j < k + 1 → (L.set k (.int .u8 229))[j]? = some (.int .u8 229)) ∧ Own (wr.setCell ⟨w.heap.size, k, none⟩ (.int .u8 229)) w.heap.size 5 (L.set k (.int .u8 229)) ∧ Below w.heap.size w (wr.setCell ⟨w.heap.size, k, none⟩ (.int .u8 229))) := by
          refine ⟨by simp [x1], ?_, fun j h1 h2 => ?_, hs, x5.setCell (Nat.le_refl _) _⟩
          · rw [List.take_set_of_le (by omega), x2]
          · by_cases e : j = k
            · subst e; rw [List.getElem?_set_self (by omega)]
            · rw [List.getElem?_set_ne (by omega)]; exact x3 j h1 (by omega)
        clear HX x1 x2 x3 x4 x5 hs HO hb1
        go_wp2
        exact ⟨⟨k + 1, _, by omega, by omega, by go_num, HY⟩, by simp [intOf]; omega⟩
      · have hk : k = n + 3 := by omega
        have HY : Hid (Own wr w.heap.size 5 (l.map (Value.int .u8) ++ [.int .u8 229, .int .u8 229, .int .u8 229]) ∧ Below w.heap.size w wr) := by
          refine ⟨?_, x5⟩
          rw [← HC.out, ← x2]
          have e : L = L.take n ++ [.int .u8 229, .int .u8 229, .int .u8 229] := by
            apply List.ext_getElem?
            intro i
            by_cases hi : i < n
            · rw [List.getElem?_append_left (by simp; omega), List.getElem?_take_of_lt hi]
            · rw [List.getElem?_append_right (by simp; omega)]
              simp only [List.length_take, x1]
              by_cases h3 : i < n + 3
              · rw [x3 i (by omega) (by omega)]
                rcases (show i - min n (n + 3) = 0 ∨ i - min n (n + 3) = 1 ∨ i - min n (n + 3) = 2 by omega) with h | h | h <;> rw [h] <;> rfl
              · rw [List.getElem?_eq_none (by omega), List.getElem?_eq_none (by simp; omega)]
          rw [← e]
          exact x4
        have HK := Lib.hid hk
        clear hk HX x1 x2 x3 x4 x5 HO hb1
        go_wp2
        go_ret
        exact ⟨rfl, HY.out⟩
end Go.Proofs.YtadgiekiiicmfaaGreatDoor

/- bytes.Repeat of one byte. -/
namespace Go.Proofs.YtadgiekiiicmfaaGreatDoor
open Go.RowKit
set_option maxRecDepth 100000
set_option linter.unusedVariables false

theorem and_low : ∀ n : Fin 101, bits BinOp.and IntKind.u64 (n.val : Int) 4294967295 = (n.val : Int) := by decide +kernel
theorem mul64_any (n : Int) (w : World) (h0 : 0 ≤ n) (h1 : n ≤ 100) :
    Calls Tryz.prog 191 #[.int .u64 1, .int .u64 n] w fun e w' => e = .returned (.tuple #[.int .u64 0, .int .u64 n]) ∧ w = w' := by
  have hb1 : bits BinOp.and IntKind.u64 1 4294967295 = 1 := and_low ⟨1, by omega⟩
  have hb0 : bits BinOp.and IntKind.u64 0 4294967295 = 0 := and_low ⟨0, by omega⟩
  have hb2 : bits BinOp.and IntKind.u64 n 4294967295 = n := by have := and_low ⟨n.toNat, by omega⟩; simp only [] at this; rwa [Int.toNat_of_nonneg h0] at this
  have hd : n / 4294967296 = 0 := by omega
  have hw : IntKind.u64.wrap n = n := by rw [IntKind.wrap_u64]; omega
  go_enter Tryz.func191, Tryz.ntmps191
  go_wp2
  go_ret2
  simp
theorem mul_any (n : Int) (w : World) (h0 : 0 ≤ n) (h1 : n ≤ 100) :
    Calls Tryz.prog 177 #[.int .u64 1, .int .u64 n] w fun e w' => e = .returned (.tuple #[.int .u64 0, .int .u64 n]) ∧ w = w' := by
  have HM := Lib.hid (mul64_any n w h0 h1)
  go_enter Tryz.func177, Tryz.ntmps177
  go_wp2_with fail
  refine HM.out.mono ?_
  rintro e w' ⟨rfl, rfl⟩
  go_wp2
  go_ret2
  exact ⟨rfl, rfl⟩
theorem wrap_i64_id {x : Int} (h0 : 0 ≤ x) (h1 : x ≤ 1000) : IntKind.i64.wrap x = x := by rw [IntKind.wrap_i64]; omega
theorem wrap64_id {x : Int} (h0 : 0 ≤ x) (h1 : x ≤ 1000) : wrap64 x = x := by unfold wrap64; omega
theorem rep_get {m j : Nat} {u v : Value} (h : (List.replicate m u)[j]? = some v) : j < m ∧ v = u := by
  rw [List.getElem?_replicate] at h
  split at h
  · injection h with h; exact ⟨by assumption, h.symm⟩
  · cases h
theorem splice_rep {L c : List Value} {bp m j : Nat} {u : Value} (h : ∀ j, j < bp → L[j]? = some u) (hl : bp ≤ L.length) (hc : c = List.replicate m u) (hm : c.length = m) (hj : j < bp + m) : (splice L bp c)[j]? = some u := by
  unfold splice
  by_cases h1 : j < bp
  · rw [List.getElem?_append_left (by rw [List.length_take]; omega), List.getElem?_take, if_pos h1]; exact h j h1
  · rw [List.getElem?_append_right (by rw [List.length_take]; omega), List.length_take, Nat.min_eq_left hl, List.getElem?_append_left (by omega), hc, List.getElem?_replicate, if_pos (by omega)]
set_option maxHeartbeats 2000000 in
theorem repeat_any {X : Nat → Prop} (A : Option Addr) (t : Int) (n : Nat) (w : World) (h : RdX X w A [t]) (hn : n ≤ 64) :
    Calls Tryz.prog 166 #[.slice A 1 1, .int .i64 n] w fun e w' => ∃ A c, e = .returned (.slice A n c) ∧ RdX (fun k => w.heap.size ≤ k) w' A (List.replicate n t) ∧ Below w.heap.size w w' := by
  obtain ⟨b, o, rfl, hXb, hb, hcell⟩ := h.2.spot (by simp)
  have hc0 := hcell 0 (.int .u8 t) rfl
  rw [Nat.add_zero] at hc0
  have HR := Lib.hid h
  clear hcell h
  by_cases h0 : n = 0
  · subst h0
    go_enter Tryz.func166, Tryz.ntmps166
    go_wp2
    go_ret
    exact ⟨_, _, rfl, RdX.nil _ _ _, (Below.refl _ _).alloc (Nat.le_refl _) _⟩
  · have hz : ¬ (n : Int) = 0 := by omega
    have hz2 : ¬ (n : Int) < 0 := by omega
    have hw1 : IntKind.u64.wrap (n : Int) = n := by rw [IntKind.wrap_u64]; omega
    have hw2 : wrap64 (n : Int) = n := by unfold wrap64; omega
    have hw3 : IntKind.i64.wrap (n : Int) = n := by rw [IntKind.wrap_i64]; omega
    have hq : ¬ (n : Int) > 8192 := by omega
    have HM := Lib.hid (mul_any n w (by omega) (by omega))
    go_enter Tryz.func166, Tryz.ntmps166
    go_wp2_with fail
    refine HM.out.mono ?_
    rintro e w' ⟨rfl, rfl⟩
    obtain ⟨cs, hrunM, hle, -⟩ := Lib.run_makeNoZero (P := Tryz.prog) w #[3] 22 5 under_bytes n (by omega)
    have hcall : (callFunc 178 #[.int .i64 (n : Int)]).run Tryz.prog w = .ok (.value (.slice (some ⟨w.heap.size, 0, none⟩) n cs.size)) ((w.alloc (.cells cs 5)).drewN 2) := by
      rw [run_callFunc_extern Tryz.func178 (by kernel_rfl) (by kernel_rfl) (by kernel_rfl) (e := Extern.BytealgMakeNoZero.makeNoZero #[3] #[22]) (by kernel_rfl), hrunM]
      rfl
    clear hrunM
    have i0 : (0 : Int) ≤ (n : Int) := by omega
    have i1 : (n : Int) ≤ (cs.size : Int) := by omega
    have hB0 : Below w.heap.size w ((w.alloc (.cells cs 5)).drewN 2) := below_drewN' ((Below.refl _ _).alloc (Nat.le_refl _) _) 2
    have hO0 : ((w.alloc (.cells cs 5)).drewN 2).heap[w.heap.size]? = some (.cells cs.toList.toArray 5 (0, 0)) := heap_alloc_new w _
    have hx0 : ((w.alloc (.cells cs 5)).drewN 2).cell? ⟨b, o, none⟩ = some (.int .u8 t) := by rw [World.cell?_of_block (hB0.block b hb)]; exact hc0
    have HB0 := Lib.hid hB0
    have HO0 := Lib.hid hO0
    clear hB0 hO0
    go_upto_region 17 with fail
    generalize (w.alloc (.cells cs 5)).drewN 2 = w2 at *
    obtain ⟨c1, hc1⟩ : ∃ c1 : List Value, c1 = [.int .u8 t] := ⟨_, rfl⟩
    have HC1 := Lib.hid hc1
    have hl1 : c1.length = 1 := by rw [hc1]; rfl
    clear hc1 hcall HM i0 i1 hc0
    go_upto_region 18 with (with_reducible refine wpList_copy_splice rfl (.tmp 58) (.tmp 59) 22 22 rfl 5 under_bytes byte_size (some ⟨w.heap.size, 0, none⟩) (some ⟨b, o, none⟩) n n 1 1 rfl rfl w.heap.size 0 cs.toList 5 HO0.out c1 ?_ ?_ ?_ ?_ w.heap.size w HB0.out (Nat.le_refl _) ?_)
    case refine_1 => rw [hl1]; exact (Nat.min_eq_left (by omega)).symm
    case refine_2 =>
      intro j v hv
      rw [HC1.out] at hv
      cases j with
      | zero => simp at hv; subst hv; exact hx0
      | succ j => simp at hv
    case refine_3 => rw [hl1, Array.length_toList]; omega
    case refine_4 => rw [HC1.out]; intro v hv; simp at hv; subst hv; rfl
    intro w3 HG3 hB3
    have HR3 : Hid (∃ L, Own w3 w.heap.size 5 L ∧ n ≤ L.length ∧ (∀ j, j < 1 → L[j]? = some (.int .u8 t)) ∧ Below w.heap.size w w3) := by
      refine ⟨_, HG3.out, by rw [length_splice _ _ _ (by rw [hl1, Array.length_toList]; omega), Array.length_toList]; exact hle, fun j hj => ?_, hB3⟩
      obtain rfl : j = 0 := by omega
      rw [HC1.out]; rfl
    clear HG3 hB3 HC1 hl1 HO0 HB0 hx0
    go_upto_region 18 with fail
    go_loopw [10, 11] (fun s10 s11 wr => ∃ (bp : Nat), 1 ≤ bp ∧ bp ≤ n ∧ s10 = .int .i64 bp ∧ Hid (∃ L, Own wr w.heap.size 5 L ∧ n ≤ L.length ∧ (∀ j, j < bp → L[j]? = some (.int .u8 t)) ∧ Below w.heap.size w wr)) (fun v _ _ => n - (intOf v).toNat)
    case atStart => exact ⟨1, by omega, by omega, rfl, HR3.out⟩
    case round =>
      obtain ⟨bp, hb1, hb2, rfl, HX⟩ := hrel
      by_cases hlt : bp < n
      · have hlt2 : (bp : Int) < n := by omega
        have hmin : ¬ ((n : Int) < (bp : Int)) := by omega
        have hmn : min (bp : Int) (n : Int) = bp := Int.min_eq_left (by omega)
        go_upto_region 20 with fail
        clear hmn
        obtain ⟨L, hO, hL, hcells, hB⟩ := HX.out
        obtain ⟨m, hm⟩ : ∃ m, m = Nat.min bp (n - bp) := ⟨_, rfl⟩
        have hm1 : m ≤ bp ∧ m ≤ n - bp ∧ 1 ≤ m := ⟨by rw [hm]; exact Nat.min_le_left _ _, by rw [hm]; exact Nat.min_le_right _ _, by rw [hm]; exact Nat.le_min.2 ⟨hb1, by omega⟩⟩
        have hbm0 : (0 : Int) ≤ (bp : Int) + (m : Int) := Int.add_nonneg (Int.natCast_nonneg _) (Int.natCast_nonneg _)
        have hbm1 : (bp : Int) + (m : Int) ≤ 1000 := by have hx : bp + m ≤ n := by (have := hm1.2.1; clear hm; omega)
                                                        exact_mod_cast Nat.le_trans hx (Nat.le_trans hn (by decide))
        have hwb2 := wrap_i64_id hbm0 hbm1
        have hwb := wrap64_id hbm0 hbm1
        have HWB := Lib.hid (And.intro hwb hwb2)
        clear hbm0 hbm1 hwb hwb2
        obtain ⟨c2, hc2⟩ : ∃ c2 : List Value, c2 = List.replicate m (.int .u8 t) := ⟨_, rfl⟩
        have hl2 : c2.length = m := by rw [hc2, List.length_replicate]
        have HM := Lib.hid (And.intro hm (And.intro hc2 hl2))
        have HO := Lib.hid (show Own wr.drew w.heap.size 5 L from hO)
        have HL := Lib.hid (And.intro hL (And.intro hcells (hB.drew)))
        have hnn : ¬ (n : Int) = (bp : Int) := by omega
        have hnn2 : ¬ (bp : Int) = 0 := by omega
        obtain ⟨hm1, hm2, hm3⟩ := hm1
        clear hm hc2 hl2 hO hL hcells hB HX
        obtain ⟨W4, hrun, hG4, hB4⟩ : ∃ W4, (Builtin.copy_ #[22, 22] 3 #[.slice (some ⟨w.heap.size, bp, none⟩) (n - bp) (n - bp), .slice (some ⟨w.heap.size, 0, none⟩) bp n]).run Tryz.prog wr.drew = .ok (.int .i64 m) W4 ∧ Own W4 w.heap.size 5 (splice L bp c2) ∧ Below w.heap.size w W4 := by
          have hr := run_copy_row (P := Tryz.prog) wr.drew 22 22 3 5 w.heap.size bp (n - bp) (n - bp) ⟨w.heap.size, 0, none⟩ bp n L.toArray 5 c2 under_bytes byte_size HO.out (by rw [HM.out.2.2]; exact HM.out.1) (fun j v hv => by rw [HM.out.2.1] at hv; obtain ⟨h1, h2⟩ := rep_get hv; subst h2; rw [addPlain, Nat.zero_add, HO.out.cell j]; exact HL.out.2.1 j (by omega)) (by rw [HM.out.2.2]; have := HL.out.1; simp; omega) (fun v hv => by rw [HM.out.2.1] at hv; rw [List.eq_of_mem_replicate hv]; rfl)
          rw [HM.out.2.2] at hr
          refine ⟨_, hr, ?_, below_setRow HL.out.2.2 (Nat.le_refl _) _⟩
          have := setRow_heap wr.drew w.heap.size _ (L.toArray.toList.take bp ++ c2 ++ L.toArray.toList.drop (bp + m)).toArray 5 _ HO.out
          unfold Own splice
          rw [HM.out.2.2]
          rw [← List.append_assoc]; exact this
        have HG4 := Lib.hid hG4
        have HB4 := Lib.hid hB4
        clear hG4 hB4
        obtain ⟨mz, hmz⟩ : ∃ mz : Int, mz = (m : Int) := ⟨_, rfl⟩
        obtain ⟨bq, hbq⟩ : ∃ bq : Int, bq = (bp : Int) + (m : Int) := ⟨_, rfl⟩
        obtain ⟨hwb, hwb2⟩ := HWB.out
        rw [← hbq] at hwb hwb2
        rw [← hmz] at hrun
        have hwb' : wrap64 ((bp : Int) + mz) = bq := by rw [hmz, ← hbq]; exact hwb
        have hwb2' : IntKind.i64.wrap ((bp : Int) + mz) = bq := by rw [hmz, ← hbq]; exact hwb2
        have HZ := Lib.hid (And.intro hmz hbq)
        have HNN := Lib.hid (And.intro hm1 (And.intro hm2 (And.intro hm3 (And.intro hlt (And.intro hb1 hn)))))
        clear hwb hwb2 hmz hbq hm1 hm2 hm3 hlt2 hnn2 hmin HWB
        go_region
        clear hwb' hwb2'
        all_goals go_wp2_with fail
        all_goals
          obtain ⟨hm1, hm2, hm3, hlt, hb1, hn⟩ := HNN.out
          refine ⟨⟨bp + m, by omega, by omega, ?_, ?_⟩, ?_⟩
          · rw [HZ.out.2]; push_cast; rfl
          · refine ⟨_, HG4.out, by rw [length_splice _ _ _ (by rw [HM.out.2.2]; have := HL.out.1; omega)]; exact HL.out.1, fun j hj => ?_, HB4.out⟩
            exact splice_rep HL.out.2.1 (by have := HL.out.1; omega) HM.out.2.1 HM.out.2.2 hj
          · have := HZ.out.2; simp only [intOf]; omega
      · obtain rfl : bp = n := by omega
        have hnl : ¬ (bp : Int) < bp := by omega
        go_wp2
        go_ret
        obtain ⟨L, hO, hL, hcells, hB⟩ := HX.out
        refine ⟨_, ⟨_, rfl⟩, ⟨fun z hz => ?_, fun j u hu => ⟨_, rfl, Nat.le_refl _, ?_⟩⟩, hB⟩
        · rw [List.eq_of_mem_replicate hz]; exact HR.out.1 t (by simp)
        · rw [List.getElem?_map] at hu
          obtain ⟨z, hz, rfl⟩ := Option.map_eq_some_iff.1 hu
          rw [List.getElem?_replicate] at hz
          split at hz
          · injection hz with hz
            subst hz
            rw [addPlain, Nat.zero_add, hO.cell j]
            exact hcells j (by assumption)
          · cases hz
end Go.Proofs.YtadgiekiiicmfaaGreatDoor

/- mod's source: a code's locals. -/
namespace Go.Proofs.YtadgiekiiicmfaaGreatDoor
open Go.RowKit
set_option maxRecDepth 100000
set_option linter.unusedVariables false

def LocPost (g N : Nat) (s : St) (w : World) (e : Ending) (w' : World) : Prop :=
  ∃ A c ls s', e = .returned (.slice A ls.length c) ∧ RdX (fun k => w.heap.size ≤ k) w' A ls ∧ ls.length ≤ c ∧ c ≤ maxLen ∧ ls.length ≤ 64 ∧ RdrAt w' g SRC (N, []) s' ∧ KP pLocals s ls s' ∧ Chg (fun k => k = g) w w'
set_option maxHeartbeats 4000000 in
theorem mloc_any (g N : Nat) (s : St) (w : World) (h : RdrAt w g SRC (N, []) s) : Calls Tryz.prog 134 #[.pointer (some ⟨g, 0, none⟩)] w (LocPost g N s w) := by
  have HC := Lib.hid (mU32 g N s w h)
  have hgw := h.lt
  clear h
  go_enter Tryz.func134, Tryz.ntmps134
  go_wp2_with fail
  refine HC.out.mono ?_
  rintro e w1 ⟨x, s1, rfl, x0, x1, h1, h2, h3⟩
  obtain ⟨n, rfl⟩ : ∃ n : Nat, x = n := ⟨x.toNat, by omega⟩
  have H1 := Lib.hid (And.intro h1 (And.intro h2 h3))
  clear h1 h2 h3 HC
  go_wp2
  go_loopw [2, 3, 4, 9] (fun v s3 s4 i wr => ∃ (acc : List Int) (k : Nat) (sk : St), k ≤ n ∧ i = .int .u32 k ∧ Hid (RdrAt wr g SRC (N, []) sk ∧ OwnB wr w.heap.size v acc ∧ IsBytes acc ∧ acc.length ≤ 64 ∧ bd s1 (pLoc n []) = bd sk (pLoc (n - k) acc) ∧ Chg (fun j => j = g) w wr)) (fun _ _ _ i _ => n - (intOf i).toNat)
  case atStart => exact ⟨[], 0, s1, by omega, rfl, H1.out.1, OwnB.nil _ _, IsBytes.nil, by simp, rfl, H1.out.2.2⟩
  case round =>
    obtain ⟨acc, k, sk, hk, rfl, HX⟩ := hrel
    obtain ⟨Av, kv, hv, hkv, hkm, -⟩ := HX.out.2.1.rdX HX.out.2.2.1
    subst hv
    have hz := HX.out.2.2.2.2.2.size
    have hq64 := HX.out.2.2.2.1
    have HKV := Lib.hid (And.intro hkv hkm)
    clear hkv hkm
    generalize hq : acc.length = q at *
    have HQ := Lib.hid hq
    clear hq
    by_cases hlt : k < n
    · have hlt2 : (k : Int) < n := by omega
      have hw1 : IntKind.u32.wrap ((k : Int) + 1) = (k : Int) + 1 := by rw [IntKind.wrap_u32]; omega
      have hw2 : IntKind.u32.wrap (64 - (q : Int)) = 64 - (q : Int) := by rw [IntKind.wrap_u32]; omega
      have hw3 : wrap64 (64 - (q : Int)) = 64 - (q : Int) := by unfold wrap64; omega
      have hw4 : IntKind.i64.wrap (64 - (q : Int)) = 64 - (q : Int) := by rw [IntKind.wrap_i64]; omega
      have HN := Lib.hid (mCount g N sk wr HX.out.1 (64 - (q : Int)) (by omega) (by omega))
      go_wp2_with fail
      refine HN.out.mono ?_
      rintro e w3 ⟨nn, s3, rfl, z0, z1, h1, h2, h3⟩
      obtain ⟨m, rfl⟩ : ∃ m : Nat, nn = m := ⟨nn.toNat, by omega⟩
      have H3 := Lib.hid (And.intro h1 (And.intro h2 h3))
      clear h1 h2 h3 HN
      have HN := Lib.hid (mvalt_any g N s3 w3 H3.out.1)
      clear hw2 hw3 hw4
      go_wp2_with fail
      refine HN.out.mono ?_
      rintro e w4 ⟨t, s4, rfl, t0, t1, h1, h2, h3⟩
      have H4 := Lib.hid (And.intro h1 (And.intro h2 h3))
      clear h1 h2 h3 HN
      have hstep : bd s1 (pLoc n []) = bd s4 (pLoc (n - k - 1) (acc ++ List.replicate m t)) := by
        have hp : pLoc (n - k) acc = seq (pCount (64 - (acc.length : Int))) fun x => seq pVal fun t => pLoc (n - k - 1) (acc ++ List.replicate x.toNat t) := by
          obtain ⟨j, hj⟩ : ∃ j, n - k = j + 1 := ⟨n - k - 1, by omega⟩
          rw [hj, pLoc, Nat.add_sub_cancel]
        have hq := HQ.out
        rw [HX.out.2.2.2.2.1, hp, hq, H3.out.2.1.seq, H4.out.2.1.seq, Int.toNat_natCast]
      have HS := Lib.hid hstep
      clear hstep
      have hcg : Chg (fun j => j = g) w w4 := (HX.out.2.2.2.2.2.trans H3.out.2.2 fun j _ e => e).trans H4.out.2.2 fun j _ e => e
      have HCG := Lib.hid hcg
      have hz4 := hcg.size
      clear hcg
      rcases s4 with e4 | l4
      · go_wp2_with (go_at_call 155; refine (rfailed_any g _ _ (.error e4) w4 H4.out.1).mono ?_; rintro e w' ⟨rfl, rfl⟩; simp only [failedS])
        go_ret
        refine ⟨none, 0, [], .error e4, rfl, RdX.nil _ _ _, Nat.le_refl _, by decide, by simp, H4.out.1, ?_, HCG.out⟩
        refine H1.out.2.1.then ?_
        unfold KP
        rw [Int.toNat_natCast, HS.out]
        rfl
      · have hb5 := (Below.refl w4.heap.size w4).alloc (Nat.le_refl _) (.cells #[.int .u8 t] 5)
        have hr5 : RdX (fun j => j = w4.heap.size) (w4.alloc (.cells #[.int .u8 t] 5)) (some ⟨w4.heap.size, 0, none⟩) [t] := rdX_lit w4 [t] (IsBytes.one (by omega) (by omega))
        have HR5 := Lib.hid (repeat_any (some ⟨w4.heap.size, 0, none⟩) t m _ hr5 (by omega))
        have HB5 := Lib.hid hb5
        clear hb5 hr5
        go_wp2_with (go_at_call 155; refine (rfailed_any g _ _ (.ok l4) w4 H4.out.1).mono ?_; rintro e w' ⟨rfl, rfl⟩; simp only [failedS])
        refine HR5.out.mono ?_
        rintro e w6 ⟨A6, c6, rfl, q1, q2⟩
        have hcg6 : Chg (fun j => j = g) w4 w6 := Chg.of_below (HB5.out.trans (q2.mono HB5.out.size))
        have hsz6 := hcg6.size
        have HO6 := Lib.hid (OwnB.chg HX.out.2.1 (((H3.out.2.2.trans H4.out.2.2 fun j _ e => e).trans hcg6 fun j _ e => e)) fun j hj e => by have := owns_ge HX.out.2.1 hj; omega)
        have HQ6 := Lib.hid (And.intro q1 (And.intro hcg6 (HB5.out.trans (q2.mono HB5.out.size))))
        clear q1 q2 hcg6
        go_wp2_with (at_builtin; refine wpList_appB rfl (.tmp 25) (.tmp 29) rfl w.heap.size (.slice Av q kv) acc rfl HO6.out A6 m c6 (List.replicate m t) rfl (by simp) HQ6.out.1 (by have := HQ.out; omega) (by omega) ?_; intro v1 w7 hv1 hw1' hw2'; have HV := Lib.hid (And.intro hv1 (And.intro hw1' hw2')); clear hv1 hw1' hw2')
        have hq := HQ.out
        refine ⟨⟨acc ++ List.replicate m t, k + 1, .ok l4, by omega, ?_, ?_⟩, ?_⟩
        · rfl
        · have y1 := HV.out.1
          have y2 := Chg.of_grown HV.out.2.1
          refine ⟨(H4.out.1.later HQ6.out.2.2).chg y2 fun j hj e => ?_, y1, HX.out.2.2.1.app fun z hz => ?_, ?_, ?_, (HCG.out.trans HQ6.out.2.1 fun j _ e => e).trans y2 fun j hj e => ?_⟩
          · have := owns_ge HO6.out e.symm; omega
          · rw [List.eq_of_mem_replicate hz]; omega
          · rw [List.length_append, List.length_replicate]; omega
          · rw [HS.out, show n - k - 1 = n - (k + 1) from by omega]
          · have := owns_ge HO6.out e.symm; omega
        · simp [intOf]; omega
    · obtain rfl : k = n := by omega
      have hnl : ¬ (k : Int) < k := by omega
      go_wp2
      go_ret
      obtain ⟨p1, p2, p3, p4, p5, p6⟩ := HX.out
      obtain ⟨A2, c2, e2, q1, q2, q3⟩ := p2.rdX p3
      have hq := HQ.out
      rw [hq] at e2
      refine ⟨A2, kv, acc, sk, by rw [hq]; injection e2 with e2 _ _; rw [← e2]; rfl, ?_, by rw [hq]; exact HKV.out.1, HKV.out.2, by rw [hq]; exact p4, p1, ?_, p6⟩
      · exact q3.mono fun j _ hj => owns_ge p2 hj
      · refine H1.out.2.1.then ?_
        unfold KP
        rw [Int.toNat_natCast, p5, Nat.sub_self]
        rfl
end Go.Proofs.YtadgiekiiicmfaaGreatDoor

/- mod's source: a code, and the list of them. (Written by gen_ModCode.py.) -/
namespace Go.Proofs.YtadgiekiiicmfaaGreatDoor
open Go.RowKit
set_option maxRecDepth 100000
set_option linter.unusedVariables false

theorem allOf_end {α : Type} {p : PR α} {y : List Int} {x : α} {s' : St} (h : KP p (.ok y) x s') (he : ∀ e, s' = .error e → 0 < e) : allOf p y = if endS s' = 0 then .ok x else .error (endS s') := by
  unfold KP at h
  rw [bd_ok] at h
  unfold allOf
  rw [h]
  rcases s' with e | (_ | ⟨z, l⟩)
  · have := he e rfl
    show (Except.error e : Except Int α) = if e = 0 then .ok x else .error e
    rw [if_neg (by omega)]
  · rfl
  · rfl
theorem T8.aside {T : TypeId} {w : World} {g N g2 : Nat} {Q : List Value} {s : St} {wr w' : World} {g3 : Nat} (h : T8 T w g N g2 Q s wr) (hc : Chg (fun k => k = g3) wr w') (h3 : g2 < g3) : T8 T w g N g2 Q s w' := by
  obtain ⟨p1, p2, p4, p5, p7⟩ := h
  exact ⟨p1.chg hc fun k hk e => by omega, p2.chg hc (by omega), p4, p5, p7.trans hc fun k hk e => by omega⟩
theorem T8.below {T : TypeId} {w : World} {g N g2 : Nat} {Q : List Value} {s : St} {wr w' : World} (h : T8 T w g N g2 Q s wr) (hb : Below wr.heap.size wr w') : T8 T w g N g2 Q s w' := by
  obtain ⟨p1, p2, p4, p5, p7⟩ := h
  exact ⟨p1.later hb, p2.later hb, p4, p5, p7.trans (Chg.of_below hb) fun k _ e => e⟩
def CV.v (x : CV) : Value := .agg #[.slice x.lA x.ls.length x.lc, x.b.v]
section
variable (g N : Nat) (s : St) (w : World) (h : RdrAt w g SRC (N, []) s)
include h
set_option maxHeartbeats 2000000 in
theorem mcode_any : Calls Tryz.prog 80 #[.pointer (some ⟨g, 0, none⟩)] w (PartPost KCd CV.v CV.x pCodeS g SRC (N, []) s w) := by
  have HT := Lib.hid (T8.new h 73 [.slice none 0 0, .slice none 0 0])
  have HG := Lib.hid h.lt
  clear h
  go_enter Tryz.func80, Tryz.ntmps80
  have HN := Lib.hid (rsized_any g SRC (N, []) _ _ HT.out.1)
  go_wp2_with fail
  refine HN.out.mono ?_
  rintro e w1 ⟨v, y, rfl, ho, hI, h1, h2, h3, hl⟩
  have hT := HT.out.step h1 h3
  obtain ⟨Ay, cy, rfl, hy1, hy2, hy3⟩ := ho.rdX hI
  have H1 := Lib.hid (KP.of h2)
  have HY := Lib.hid (And.intro hy3 (And.intro hy1 (And.intro hy2 (And.intro hl ho))))
  clear h1 h2 h3 HN ho hI hl hy1 hy2 hy3 HT
  have HT := Lib.hid hT
  clear hT
  generalize hqy : y.length = qy at *
  have HQY := Lib.hid hqy
  clear hqy
  go_wp2_with fail
  refine (snew_any Ay qy cy w1).mono ?_
  rintro e w2 ⟨rfl, hb2⟩
  have hb3 := (Below.refl w2.heap.size w2).alloc (Nat.le_refl _) (.cells #[.slice Ay qy cy, .int .i64 0, .int .i64 0] SRC)
  have hI3 : RdrAt (w2.alloc (.cells #[.slice Ay qy cy, .int .i64 0, .int .i64 0] SRC)) w2.heap.size SRC (qy, []) (.ok y) := by
    have hz := hb2.size
    obtain ⟨y1, y2, y3, y4, y5⟩ := HY.out
    have hq := HQY.out
    refine ⟨Ay, cy, 0, ?_, ((y1.later hb2).later hb3).mono fun k _ hk => ?_, by omega, y3, by omega, by simp only []; omega, by simp only []; omega, by simp only []; omega⟩
    · rw [hq]; exact Own.new w2 SRC [.slice Ay qy cy, .int .i64 0, .int .i64 0]
    · have := owns_lt y5 hk; omega
  have hg23 : w.heap.size < w2.heap.size := by have := HT.out.2.1.lt; have := hb2.size; omega
  have HT3 := Lib.hid ((HT.out.below hb2).below hb3)
  have HI3 := Lib.hid hI3
  clear hI3 hb2 hb3 HT
  go_upto_region 2 with fail
  generalize w2.alloc (.cells #[.slice Ay qy cy, .int .i64 0, .int .i64 0] SRC) = w3 at *
  generalize w2.heap.size = g3 at *
  have HN := Lib.hid (mloc_any g3 qy (.ok y) w3 HI3.out)
  obtain ⟨k0, k1, f0, f1⟩ := own_cells2 HT3.out.2.1
  go_wp2_with fail
  refine HN.out.mono ?_
  rintro e w4 ⟨Al, cl, ls, s4, rfl, l1, l2, l3, l4, h1, h2, h3⟩
  have hg3w := HI3.out.lt
  have hT := HT3.out.aside h3 hg23
  have H2 := Lib.hid h2
  generalize hql : ls.length = ql at *
  have HQL := Lib.hid hql
  clear hql
  have hT2 := hT.set 0 (.slice Al ql cl)
  simp only [List.set] at hT2
  have HI4 := Lib.hid (RdrAt.setOther h1 hT.2.1 (NoByte.slices _ _ _ _ _ _) (by omega) 0 (.slice Al ql cl))
  have hL4 : RdX (fun k => g3 < k) (w4.setCell ⟨w.heap.size, 0, none⟩ (.slice Al ql cl)) Al ls := (l1.mono fun k _ hk => by omega).chg (chgSet _ w.heap.size 0 _) fun k _ hk e => by omega
  have HL := Lib.hid (And.intro hL4 (And.intro l2 (And.intro l3 l4)))
  clear h1 h2 HN l1 l2 l3 l4 k0 k1 f0 f1 hL4 h3
  obtain ⟨k0, k1, f0, f1⟩ := own_cells2 hT.2.1
  have HT := Lib.hid hT2
  clear hT hT2 HT3 HI3
  go_upto_region 3 with fail
  generalize w4.setCell ⟨w.heap.size, 0, none⟩ (.slice Al ql cl) = w5 at *
  clear k0 k1 f0 f1
  obtain ⟨k0, k1, f0, f1⟩ := own_cells2 HT.out.2.1
  have HN := Lib.hid (mexpr_any g3 qy s4 w5 HI4.out)
  go_wp2_with fail
  refine HN.out.mono ?_
  rintro e w6 ⟨b, s5, rfl, p1, h1, h2, h3⟩
  have hT := HT.out.aside h3 hg23
  have hg3v := HI4.out.lt
  have H3 := Lib.hid h2
  obtain ⟨isb, Ab, cb⟩ := b
  have p1' : BV.ok (fun k => w5.heap.size ≤ k) w6 ⟨isb, Ab, cb⟩ := p1
  simp only [BV.v] at *
  generalize hqb : isb.length = qb at *
  have HQB := Lib.hid hqb
  clear hqb
  have hT2 := hT.set 1 (.slice Ab qb cb)
  simp only [List.set] at hT2
  have HI6 := Lib.hid (RdrAt.setOther h1 hT.2.1 (NoByte.slices _ _ _ _ _ _) (by omega) 1 (.slice Ab qb cb))
  have HL6 : Hid (RdX (fun k => g3 < k) (w6.setCell ⟨w.heap.size, 1, none⟩ (.slice Ab qb cb)) Al ls ∧ BV.ok (fun k => g3 < k) (w6.setCell ⟨w.heap.size, 1, none⟩ (.slice Ab qb cb)) ⟨isb, Ab, cb⟩) :=
    ⟨(HL.out.1.chg h3 fun k _ hk e => by omega).chg (chgSet _ w.heap.size 1 _) fun k _ hk e => by omega, (p1'.mono fun k _ hk => by omega).chg (chgSet _ w.heap.size 1 _) fun k _ hk e => by omega⟩
  clear h1 h2 HN p1 p1' k0 k1 f0 f1 h3
  obtain ⟨k0, k1, f0, f1⟩ := own_cells2 hT.2.1
  have HT7 := Lib.hid hT2
  clear hT hT2 HT HI4
  go_upto_region 4 with fail
  generalize w6.setCell ⟨w.heap.size, 1, none⟩ (.slice Ab qb cb) = w7 at *
  clear k0 k1 f0 f1
  obtain ⟨k0, k1, f0, f1⟩ := own_cells2 HT7.out.2.1
  have HE := Lib.hid (rend_any g3 SRC (qy, []) s5 w7 HI6.out)
  have hao := allOf_end (p := pOwn) (x := (ls, isb.map IV.x)) (H2.out.then (H3.out.good rfl)) (fun e he => (RdrAt.er HI6.out e he).1)
  have her : endS s5 = 0 ∨ (0 < endS s5 ∧ endS s5 ≤ 100) := by
    rcases s5 with e | (_ | ⟨z, l⟩)
    · have := HI6.out.2; exact .inr this
    · exact .inl rfl
    · exact .inr ⟨by simp [endS], by simp [endS]⟩
  have HAO := Lib.hid hao
  clear hao
  go_wp2_with fail
  refine HE.out.mono ?_
  rintro e w8 ⟨rfl, h3⟩
  have hT := HT7.out.aside h3 hg23
  have hgv := HI6.out.lt
  have HL8 : Hid (RdX (fun k => g3 < k) w8 Al ls ∧ BV.ok (fun k => g3 < k) w8 ⟨isb, Ab, cb⟩) := ⟨HL6.out.1.chg h3 fun k _ hk e => by omega, HL6.out.2.chg h3 fun k _ hk e => by omega⟩
  have HT8 := Lib.hid hT
  clear hT h3 HE HT7 k0 k1 f0 f1
  obtain ⟨k0, k1, f0, f1⟩ := own_cells2 HT8.out.2.1
  generalize hee : endS s5 = ee at *
  rcases her with rfl | ⟨he1, he2⟩
  · have HKP : Hid (KP pCodeS s (ls, isb.map IV.x) _) := H1.out.good (f := fun y l => bd (allOf pOwn y) fun r => .ok (r, l)) (by funext l; rw [HAO.out, if_pos rfl]; rfl)
    go_wp2
    have HLZ := HL8
    have hW := ((HT8.out.set 0 (.slice Al ql cl)).set 1 (.slice Ab qb cb))
    simp only [List.set] at hW
    have hl := (HLZ.out.1.chg (chgSet _ w.heap.size 0 (.slice Al ql cl)) fun k _ hk e => by omega).chg (chgSet _ w.heap.size 1 (.slice Ab qb cb)) fun k _ hk e => by omega
    have hb := (HLZ.out.2.chg (chgSet _ w.heap.size 0 (.slice Al ql cl)) fun k _ hk e => by omega).chg (chgSet _ w.heap.size 1 (.slice Ab qb cb)) fun k _ hk e => by omega
    generalize ((w8.setCell ⟨w.heap.size, 0, none⟩ (.slice Al ql cl)).setCell ⟨w.heap.size, 1, none⟩ (.slice Ab qb cb)) = W at *
    obtain ⟨m0, m1, -, -⟩ := own_cells2 hW.2.1
    refine bodyPost_ret (by simp [results, Tryz.results80, go_sem, m0, m1]; try rfl) rfl ?_
    refine ⟨⟨ls, Al, cl, isb, Ab, cb⟩, _, (by obtain rfl := HQL.out; obtain rfl := HQB.out; rfl), ⟨hl.mono fun k _ hk => by omega, by rw [HQL.out]; exact HL.out.2.1, HL.out.2.2.1, by rw [HQL.out]; exact HL.out.2.2.2, hb.mono fun k _ hk => by omega⟩, hW.1, HKP.out, hW.2.2.2.2⟩
  · have hne : (ee != 0) = true := by simp; omega
    have HKP : Hid (KP pCodeS s (ls, isb.map IV.x) _) := H1.out.bad (e := ee) (f := fun y l => bd (allOf pOwn y) fun r => .ok (r, l)) (by funext l; rw [HAO.out, if_neg (by omega)]; rfl) _
    go_wp2_with fail
    refine (rfail_any g _ _ _ ee w8 HT8.out.1 he1 he2).mono ?_
    rintro e w9 ⟨⟨u, rfl⟩, h2, hc⟩
    have hT := HT8.out.step h2 hc
    have HLZ : Hid (RdX (fun k => g3 < k) w9 Al ls ∧ BV.ok (fun k => g3 < k) w9 ⟨isb, Ab, cb⟩) := ⟨HL8.out.1.chg hc fun k _ hk e => by have := HG.out; omega, HL8.out.2.chg hc fun k _ hk e => by have := HG.out; omega⟩
    clear h2 hc k0 k1 f0 f1
    obtain ⟨k0, k1, f0, f1⟩ := own_cells2 hT.2.1
    have HT9 := Lib.hid hT
    clear hT
    go_wp2
    have hW := ((HT9.out.set 0 (.slice Al ql cl)).set 1 (.slice Ab qb cb))
    simp only [List.set] at hW
    have hl := (HLZ.out.1.chg (chgSet _ w.heap.size 0 (.slice Al ql cl)) fun k _ hk e => by omega).chg (chgSet _ w.heap.size 1 (.slice Ab qb cb)) fun k _ hk e => by omega
    have hb := (HLZ.out.2.chg (chgSet _ w.heap.size 0 (.slice Al ql cl)) fun k _ hk e => by omega).chg (chgSet _ w.heap.size 1 (.slice Ab qb cb)) fun k _ hk e => by omega
    generalize ((w9.setCell ⟨w.heap.size, 0, none⟩ (.slice Al ql cl)).setCell ⟨w.heap.size, 1, none⟩ (.slice Ab qb cb)) = W at *
    obtain ⟨m0, m1, -, -⟩ := own_cells2 hW.2.1
    refine bodyPost_ret (by simp [results, Tryz.results80, go_sem, m0, m1]; try rfl) rfl ?_
    refine ⟨⟨ls, Al, cl, isb, Ab, cb⟩, _, (by obtain rfl := HQL.out; obtain rfl := HQB.out; rfl), ⟨hl.mono fun k _ hk => by omega, by rw [HQL.out]; exact HL.out.2.1, HL.out.2.2.1, by rw [HQL.out]; exact HL.out.2.2.2, hb.mono fun k _ hk => by omega⟩, hW.1, HKP.out, hW.2.2.2.2⟩
end
theorem under_lscode : Tryz.prog.underlying 33 = some (.slice 73) := Tryz.underlying33
theorem info_lscode : (Tryz.prog.info? 73).map (fun i => (i.zero, i.size, i.bytes)) = some (some (.agg #[.slice none 0 0, .slice none 0 0]), (KCd).n, 48) := by kernel_rfl
set_option maxHeartbeats 2000000 in
theorem lscode_any (g N : Nat) (s : St) (w : World) (h : RdrAt w g SRC (N, []) s) (most : Int) (m0 : 0 ≤ most) (m1 : most ≤ 1000) :
    Calls Tryz.prog 79 #[.pointer (some ⟨g, 0, none⟩), .int .u32 most, .func (.func 80) #[.pointer (some ⟨g, 0, none⟩)] #[]] w (LsPost KCd 73 CV.x (pLs most pCodeS) most g N s w) := by
  have HC := Lib.hid (mCount g N s w h most m0 (by omega))
  have hgw := h.lt
  clear h
  go_enter Tryz.func79, Tryz.ntmps79
  go_wp2_with fail
  refine HC.out.mono ?_
  rintro e w1 ⟨x, s1, rfl, x0, x1, h1, h2, h3⟩
  obtain ⟨n, rfl⟩ : ∃ n : Nat, x = n := ⟨x.toNat, by omega⟩
  have H1 := Lib.hid (And.intro h1 (And.intro h2 h3))
  clear h1 h2 h3 HC
  go_wp2
  go_loopw [6, 12] (fun v i wr => ∃ (is : List _) (k : Nat) (sk : St), k ≤ n ∧ i = .int .i64 k ∧ Hid (is.length = k) ∧ Hid (RdrAt wr g SRC (N, []) sk ∧ OwnE KCd 73 (fun j => w.heap.size ≤ j ∧ v.ownBlock ≠ some j) wr w.heap.size v is ∧ KP (pRep pCodeS k) s1 (is.map CV.x) sk ∧ Chg (fun j => j = g) w wr)) (fun _ i _ => n - (intOf i).toNat)
  case atStart => exact ⟨[], 0, s1, by omega, rfl, rfl, H1.out.1, OwnE.nil _ _ _ _ _, pRep_zero _ _, H1.out.2.2⟩
  case round =>
    obtain ⟨is, k, sk, hk, rfl, HK, HX⟩ := hrel
    obtain ⟨Av, kv, hv, hkv, hkm, -⟩ := RdV.of_own HX.out.2.1.1
    subst hv
    have hz := HX.out.2.2.2.size
    clear hkv hkm
    generalize hq : is.length = q at *
    have HQ := Lib.hid hq
    clear hq
    by_cases hlt : k < n
    · have hlt2 : (k : Int) < n := by omega
      have hw1 : IntKind.i64.wrap ((k : Int) + 1) = (k : Int) + 1 := by rw [IntKind.wrap_i64]; omega
      have HN := Lib.hid (mcode_any g N sk wr HX.out.1)
      go_wp2_with fail
      refine HN.out.mono ?_
      rintro e w3 ⟨a, s', rfl, p1, p2, p3, p4⟩
      have hz3 := p4.size
      have H3 : Hid (OwnE KCd 73 (fun j => w.heap.size ≤ j ∧ (Value.slice Av q kv).ownBlock ≠ some j) w3 w.heap.size (.slice Av q kv) is ∧ (KCd).ok (fun j => w.heap.size ≤ j ∧ (Value.slice Av q kv).ownBlock ≠ some j) w3 a) := by
        refine ⟨HX.out.2.1.chg p4 (fun j _ hj e => by have := hj.1; omega) fun j hj e => by have := owns_ge HX.out.2.1.1 hj; omega, (KCd).mono p1 fun j _ hj => ⟨by omega, fun e => by have := owns_lt HX.out.2.1.1 e; omega⟩⟩
      have H4 := Lib.hid (And.intro p2 (And.intro p3 p4))
      clear p1 p2 p3 p4 HN
      obtain ⟨cls, clA, clc, ⟨isb, Ab, cb⟩⟩ := a
      simp only [CV.v, BV.v] at *
      generalize hqy : cls.length = qy at *
      have HQY := Lib.hid hqy
      clear hqy
      generalize hqb : isb.length = qb at *
      have HQB := Lib.hid hqb
      clear hqb
      go_wp2_with (at_builtin; refine wpList_appE1 (K := KCd) under_lscode info_lscode rfl (by omega) rfl (.tmp 14) (.tmp 17) rfl w.heap.size (.slice Av q kv) is rfl H3.out.1 ⟨cls, clA, clc, ⟨isb, Ab, cb⟩⟩ #[.slice clA qy clc, .slice Ab qb cb] (by obtain rfl := HQB.out; obtain rfl := HQY.out; rfl) H3.out.2 rfl (by have := HQ.out; have := HK.out; omega) (by omega) ?_; intro v1 w4 hv1 hw1'; have HV := Lib.hid (And.intro hv1 hw1'); clear hv1 hw1')
      refine ⟨⟨is ++ [⟨cls, clA, clc, ⟨isb, Ab, cb⟩⟩], k + 1, s', by omega, rfl, ?_, ?_⟩, ?_⟩
      · have := HK.out; have := HQ.out; show (is ++ [_]).length = k + 1; rw [List.length_append, List.length_singleton]; omega
      · have y1 := HV.out.1
        have y2 := HV.out.2
        refine ⟨H4.out.1.chg y2.1 fun j hj e => by have := owns_ge H3.out.1.1 e; omega, y1.mono (fun j _ hj => ⟨hj.1.1, fun e => y1.2.2 j e hj⟩) (fun j hj e => e.2 hj), ?_, (HX.out.2.2.2.trans H4.out.2.2 fun j _ e => e).trans y2.1 fun j hj e => by have := owns_ge H3.out.1.1 e; omega⟩
        rw [List.map_append]
        exact pRep_step HX.out.2.2.1 H4.out.2.1
      · simp [intOf]; omega
    · obtain rfl : k = n := by omega
      have hnl : ¬ (k : Int) < k := by omega
      go_wp2
      go_ret
      refine ⟨_, is, sk, rfl, HX.out.2.1, HX.out.1, ?_, HX.out.2.2.2, by have := HK.out; have := HQ.out; omega⟩
      exact H1.out.2.1.then (by rw [Int.toNat_natCast]; exact HX.out.2.2.1)
end Go.Proofs.YtadgiekiiicmfaaGreatDoor
