/- The walk of TypesForms: out of the contracts. -/
import Derived.Test.YtnjbijndfbobbaaBegun4
import Derived.Test.YtnjbijndfbobbaaConvB
namespace Go.Proofs.Ytnjbijndfbobbaa
open Go.RowKit
set_option maxRecDepth 100000
set_option linter.unusedVariables false

def ttx : List (List Int) := [[], [97], [96], [96, 0], [96, 0, 0], [96, 1, 125, 0], [96, 9], [96, 1, 110], [96, 0, 2, 112, 111]]
def terr : List Int := [3, 2, 3, 3, 0, 5, 4, 2, 0]
theorem ttab (k : Nat) (hk : k < 9) : ∃ l er, (ttx.map fun l => Value.string (strOfNums l))[k]? = some (.string (strOfNums l)) ∧ (terr.map (Value.int .i64))[k]? = some (.int .i64 er) ∧ IsBytes l ∧ l.length ≤ 100 ∧ codeOf (pFn l) = er ∧ (er = 0 ∨ (er ≠ 0 ∧ readOf l (pFn l) = 0)) := by
  have key : ∀ k : Fin 9, (∀ z ∈ ttx.getD k.val [], 0 ≤ z ∧ z ≤ 255) ∧ (ttx.getD k.val []).length ≤ 100 ∧ codeOf (pFn (ttx.getD k.val [])) = terr.getD k.val 0 ∧ (terr.getD k.val 0 = 0 ∨ (terr.getD k.val 0 ≠ 0 ∧ readOf (ttx.getD k.val []) (pFn (ttx.getD k.val [])) = 0)) := by decide +kernel
  obtain ⟨h1, h2, h3, h4⟩ := key ⟨k, hk⟩
  refine ⟨ttx.getD k [], terr.getD k 0, ?_, ?_, h1, h2, h3, h4⟩
  · rw [List.getElem?_map, List.getElem?_eq_getElem (show k < ttx.length from hk), List.getD_eq_getElem?_getD, List.getElem?_eq_getElem (show k < ttx.length from hk)]; rfl
  · rw [List.getElem?_map, List.getElem?_eq_getElem (show k < terr.length from hk), List.getD_eq_getElem?_getD, List.getElem?_eq_getElem (show k < terr.length from hk)]; rfl
theorem lim_a : pLim [2, 0] = .error 2 := by kernel_rfl
theorem lim_b : pLim [1, 0] = .error 3 := by kernel_rfl
theorem lim_c : pLim [1, 9, 3] = .ok (⟨9, 3, true⟩, []) := by kernel_rfl
set_option maxHeartbeats 8000000 in
theorem typesForms_core (w : World) : Calls Try.prog 11 #[] w fun e w' => e = .returned (.bool true) ∧ Below w.heap.size w w' := by
  go_enter Try.func11, Try.ntmps11
  go_wp2_with fail
  refine (begun4_any w).mono ?_
  rintro e w1 ⟨rfl, hb1⟩
  have HB1 := Lib.hid hb1
  clear hb1
  go_wp2
  go_loopw [3] (fun i wr => ∃ (k : Nat), k ≤ 9 ∧ i = .int .i64 k ∧ Hid (Own wr w1.heap.size 9 (ttx.map fun l => .string (strOfNums l)) ∧ Own wr (w1.heap.size + 1) 29 (terr.map (Value.int .i64)) ∧ Below w.heap.size w wr)) (fun i _ => 9 - (intOf i).toNat)
  case atStart =>
    refine ⟨0, by omega, rfl, ?_, ?_, ?_⟩
    · exact (Own.new w1 9 (ttx.map fun l => .string (strOfNums l))).later ((Below.refl _ _).alloc (Nat.le_refl _) _)
    · have := Own.new (w1.alloc (.cells (ttx.map fun l => Value.string (strOfNums l)).toArray 9)) 29 (terr.map (Value.int .i64))
      rw [show (w1.alloc (.cells (ttx.map fun l => Value.string (strOfNums l)).toArray 9)).heap.size = w1.heap.size + 1 from by simp] at this
      exact this
    · exact HB1.out.trans ((((Below.refl w1.heap.size w1).alloc (Nat.le_refl _) _).alloc (by simp) _).mono HB1.out.size)
  case round =>
    obtain ⟨k, hk, rfl, HX⟩ := hrel
    by_cases hlt : k < 9
    · obtain ⟨l, er, hl, he, hI, hn, hcode, hok⟩ := ttab k hlt
      have hc1 := HX.out.1.cell k
      have hc2 := HX.out.2.1.cell k
      rw [hl] at hc1
      rw [he] at hc2
      obtain ⟨cc, W, hconv, hrd, hbw, hcc1, hcc2⟩ := conv_bytes wr l hI (by omega)
      have hlt2 : (k : Int) < 9 := by omega
      have HW := Lib.hid (And.intro hrd (And.intro hbw (And.intro hcc1 (And.intro hcc2 (And.intro hcode hok)))))
      clear hrd hbw hcc1 hcc2 hcode hok hl he hI
      generalize hll : l.length = ll at *
      have HLL := Lib.hid hll
      clear hll
      go_wp2_with fail
      refine (take_fn _ l ll cc W HW.out.1 HLL.out.symm (by omega) HW.out.2.2.1 HW.out.2.2.2.1).mono ?_
      rintro e w3 ⟨v3, rfl, hv3, hb3⟩
      rw [HW.out.2.2.2.2.1]
      obtain ⟨A3, c3, B3, d3, rfl, -⟩ := hv3
      have hs0 := HX.out.1.lt
      have hs1 := HX.out.2.1.lt
      have hs2 := HW.out.2.1.size
      have hs3 := hb3.size
      have hbb := HW.out.2.1.trans (hb3.mono hs2)
      have hm2 := (HX.out.2.1.later HW.out.2.1).later hb3
      have hm1 := (HX.out.1.later HW.out.2.1).later hb3
      have HN : Hid (∀ o : Obj, Own (w3.alloc o) w1.heap.size 9 (ttx.map fun l => .string (strOfNums l)) ∧ Own (w3.alloc o) (w1.heap.size + 1) 29 (terr.map (Value.int .i64)) ∧ Below w.heap.size w (w3.alloc o)) := fun o => by
        have hb4 := (Below.refl w3.heap.size w3).alloc (Nat.le_refl _) o
        exact ⟨hm1.later hb4, hm2.later hb4, HX.out.2.2.trans ((hbb.trans (hb4.mono (by omega))).mono HX.out.2.2.size)⟩
      have hc3 : w3.cell? ⟨w1.heap.size + 1, k, none⟩ = some (.int .i64 er) := ((hb3.cell (by simp only []; omega)).trans (HW.out.2.1.cell (by simp only []; omega))).trans hc2
      have hk13 : w1.heap.size + 1 < w3.heap.size := by omega
      clear hbb hm1 hm2 hb3 hc1 hc2 hconv
      generalize (fnOf (pFn l)).1.length = m1 at *
      generalize (fnOf (pFn l)).2.length = m2 at *
      rcases HW.out.2.2.2.2.2 with rfl | ⟨her, hrd⟩
      · generalize readOf l (pFn l) = rr at *
        by_cases hr0 : rr = 0
        · subst hr0
          go_wp2
          refine ⟨⟨k + 1, by omega, by go_num, HN.out _⟩, ?_⟩
          simp [intOf]; omega
        · have hr1 : (rr != 0) = true := by simpa using hr0
          go_wp2
          refine ⟨⟨k + 1, by omega, by go_num, HN.out _⟩, ?_⟩
          simp [intOf]; omega
      · rw [hrd]
        have her2 : (er != er) = false := by simp
        clear hrd
        go_wp2
        refine ⟨⟨k + 1, by omega, by go_num, HN.out _⟩, ?_⟩
        simp [intOf]; omega
    · obtain rfl : k = 9 := by omega
      have T1 : Hid (∀ W : World, Calls Try.prog 33 #[.slice (some ⟨W.heap.size, 0, none⟩) 2 2] (W.alloc (.cells #[.int .u8 2, .int .u8 0] 5)) (LimPost [2, 0] (W.alloc (.cells #[.int .u8 2, .int .u8 0] 5)))) := fun W => take_lim_lit [2, 0] 2 W (fun z hz => by simp at hz; omega) rfl (by omega)
      have T2' : Hid (∀ W : World, Calls Try.prog 33 #[.slice (some ⟨W.heap.size, 0, none⟩) 2 2] (W.alloc (.cells #[.int .u8 1, .int .u8 0] 5)) (LimPost [1, 0] (W.alloc (.cells #[.int .u8 1, .int .u8 0] 5)))) := fun W => take_lim_lit [1, 0] 2 W (fun z hz => by simp at hz; omega) rfl (by omega)
      have T3 : Hid (∀ W : World, Calls Try.prog 33 #[.slice (some ⟨W.heap.size, 0, none⟩) 3 3] (W.alloc (.cells #[.int .u8 1, .int .u8 9, .int .u8 3] 5)) (LimPost [1, 9, 3] (W.alloc (.cells #[.int .u8 1, .int .u8 9, .int .u8 3] 5)))) := fun W => take_lim_lit [1, 9, 3] 3 W (fun z hz => by simp at hz; omega) rfl (by omega)
      have hA : ∀ (B : Nat) (W : World) (o : Obj), Below B w W → B ≤ w.heap.size → Below B w (W.alloc o) := fun B W o h hB => h.alloc (Nat.le_trans hB h.size) o
      have HA := Lib.hid (fun (W : World) (o : Obj) (h : Below w.heap.size w W) => hA w.heap.size W o h (Nat.le_refl _))
      have HB := Lib.hid HX.out.2.2
      clear hA HX
      go_wp2_with fail
      refine (T1.out wr).mono ?_
      rintro e w3 ⟨rfl, hb3⟩
      rw [lim_a]
      simp only [limOf, codeOf, readOf, limV]
      have hx := HA.out _ (.cells #[.int .u8 2, .int .u8 0] 5) HB.out
      have HB3 := Lib.hid (HA.out _ (.cells #[.int .u32 0, .int .u32 0, .bool false] 57) (hx.trans (hb3.mono hx.size)))
      clear hb3 hx
      go_upto_region 12 with fail
      generalize w3.alloc (.cells #[.int .u32 0, .int .u32 0, .bool false] 57) = w4 at *
      go_wp2_with fail
      refine (T2'.out w4).mono ?_
      rintro e w5 ⟨rfl, hb3⟩
      rw [lim_b]
      simp only [limOf, codeOf, readOf, limV]
      have hx := HA.out _ (.cells #[.int .u8 1, .int .u8 0] 5) HB3.out
      have HB5 := Lib.hid (HA.out _ (.cells #[.int .u32 0, .int .u32 0, .bool false] 57) (hx.trans (hb3.mono hx.size)))
      clear hb3 hx
      go_upto_region 13 with fail
      generalize w5.alloc (.cells #[.int .u32 0, .int .u32 0, .bool false] 57) = w6 at *
      go_wp2_with fail
      refine (T3.out w6).mono ?_
      rintro e w7 ⟨rfl, hb3⟩
      rw [lim_c]
      simp only [limOf, codeOf, readOf, limV, List.length_cons, List.length_nil, Nat.zero_add, Nat.reduceAdd]
      have hx := HA.out _ (.cells #[.int .u8 1, .int .u8 9, .int .u8 3] 5) HB5.out
      have HB7 := Lib.hid (HA.out _ (.cells #[.int .u32 9, .int .u32 3, .bool true] 57) (hx.trans (hb3.mono hx.size)))
      clear hb3 hx
      go_wp2_with (go_at_call 35; refine (ref_any 35 (by simp) _ _).mono ?_; rintro e w6 ⟨rfl, rfl⟩; simp only [isRef])
      go_ret
      exact ⟨rfl, HB7.out⟩
end Go.Proofs.Ytnjbijndfbobbaa
