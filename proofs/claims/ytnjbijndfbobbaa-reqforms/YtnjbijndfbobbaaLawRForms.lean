/- The walk of ReqForms: out of the contracts. -/
import Derived.Test.YtnjbijndfbobbaaBegun3
import Derived.Test.YtnjbijndfbobbaaConvB
namespace Go.Proofs.Ytnjbijndfbobbaa
open Go.RowKit
set_option maxRecDepth 100000
set_option linter.unusedVariables false

def rtx : List (List Int) := [[], [0], [7, 0, 0, 0, 0, 0, 0, 0, 9], [5, 0, 0, 0, 0, 0, 0, 0, 9], [5, 0, 0, 0, 0, 0, 0, 0, 9, 3], [5, 0, 0, 0, 0, 0, 0, 0, 9, 3, 0], [3, 0, 0, 0, 0, 0, 0, 0, 9, 2, 97, 98], [3, 0, 0, 0, 0, 0, 0, 0, 9, 33], [4, 0, 0, 0, 0, 0, 0, 0, 9, 1, 1, 97, 9], [4, 0, 0, 0, 0, 0, 0, 0, 9, 1, 1, 97, 1, 5, 0], [1, 0, 0, 0, 0, 0, 0, 0, 9], [6, 0, 0, 0, 0, 0, 0, 0, 9, 0, 0, 0, 0, 0, 0, 0, 9], [6, 0, 0, 0, 0, 0, 0, 0, 9, 0]]
def rerr : List Int := [3, 2, 2, 3, 0, 2, 0, 4, 4, 0, 0, 0, 3]
theorem rtab (k : Nat) (hk : k < 13) : ∃ l er, (rtx.map fun l => Value.string (strOfNums l))[k]? = some (.string (strOfNums l)) ∧ (rerr.map (Value.int .i64))[k]? = some (.int .i64 er) ∧ IsBytes l ∧ l.length ≤ 100 ∧ codeOf (takeReq l) = er ∧ ((er = 0 ∧ (reqOf (takeReq l)).token = 9) ∨ (er ≠ 0 ∧ (reqOf (takeReq l)).kind = 0)) := by
  have key : ∀ k : Fin 13, (∀ z ∈ rtx.getD k.val [], 0 ≤ z ∧ z ≤ 255) ∧ (rtx.getD k.val []).length ≤ 100 ∧ codeOf (takeReq (rtx.getD k.val [])) = rerr.getD k.val 0 ∧ ((rerr.getD k.val 0 = 0 ∧ (reqOf (takeReq (rtx.getD k.val []))).token = 9) ∨ (rerr.getD k.val 0 ≠ 0 ∧ (reqOf (takeReq (rtx.getD k.val []))).kind = 0)) := by decide +kernel
  obtain ⟨h1, h2, h3, h4⟩ := key ⟨k, hk⟩
  refine ⟨rtx.getD k [], rerr.getD k 0, ?_, ?_, h1, h2, h3, h4⟩
  · rw [List.getElem?_map, List.getElem?_eq_getElem (show k < rtx.length from hk), List.getD_eq_getElem?_getD, List.getElem?_eq_getElem (show k < rtx.length from hk)]; rfl
  · rw [List.getElem?_map, List.getElem?_eq_getElem (show k < rerr.length from hk), List.getD_eq_getElem?_getD, List.getElem?_eq_getElem (show k < rerr.length from hk)]; rfl
set_option maxHeartbeats 8000000 in
theorem reqForms_core (w : World) : Calls Try.prog 6 #[] w fun e w' => e = .returned (.bool true) ∧ Below w.heap.size w w' := by
  go_enter Try.func6, Try.ntmps6
  go_wp2_with fail
  refine (begun3_any w).mono ?_
  rintro e w1 ⟨rfl, hb1⟩
  have HB1 := Lib.hid hb1
  clear hb1
  go_wp2
  go_loopw [4] (fun i wr => ∃ (k : Nat), k ≤ 13 ∧ i = .int .i64 k ∧ Hid (Own wr w1.heap.size 9 (rtx.map fun l => .string (strOfNums l)) ∧ Own wr (w1.heap.size + 1) 29 (rerr.map (Value.int .i64)) ∧ Below w.heap.size w wr)) (fun i _ => 13 - (intOf i).toNat)
  case atStart =>
    refine ⟨0, by omega, rfl, ?_, ?_, ?_⟩
    · exact (Own.new w1 9 (rtx.map fun l => .string (strOfNums l))).later ((Below.refl _ _).alloc (Nat.le_refl _) _)
    · have := Own.new (w1.alloc (.cells (rtx.map fun l => Value.string (strOfNums l)).toArray 9)) 29 (rerr.map (Value.int .i64))
      rw [show (w1.alloc (.cells (rtx.map fun l => Value.string (strOfNums l)).toArray 9)).heap.size = w1.heap.size + 1 from by simp] at this
      exact this
    · exact HB1.out.trans ((((Below.refl w1.heap.size w1).alloc (Nat.le_refl _) _).alloc (by simp) _).mono HB1.out.size)
  case round =>
    obtain ⟨k, hk, rfl, HX⟩ := hrel
    by_cases hlt : k < 13
    · obtain ⟨l, er, hl, he, hI, hn, hcode, hok⟩ := rtab k hlt
      have hc1 := HX.out.1.cell k
      have hc2 := HX.out.2.1.cell k
      rw [hl] at hc1
      rw [he] at hc2
      obtain ⟨cc, W, hconv, hrd, hbw, hcc1, hcc2⟩ := conv_bytes wr l hI (by omega)
      have hlt2 : (k : Int) < 13 := by omega
      have HW := Lib.hid (And.intro hrd (And.intro hbw (And.intro hcc1 (And.intro hcc2 (And.intro hcode hok)))))
      clear hrd hbw hcc1 hcc2 hcode hok hl he hI
      generalize hll : l.length = ll at *
      have HLL := Lib.hid hll
      clear hll
      go_wp2_with fail
      refine (take_req _ l ll cc W HW.out.1 HLL.out.symm (by omega) HW.out.2.2.1 HW.out.2.2.2.1).mono ?_
      rintro e w3 ⟨v3, rfl, hv3, hb3⟩
      rw [HW.out.2.2.2.2.1]
      obtain ⟨A3, c3, B3, d3, rfl⟩ := hv3.form
      have hs0 := HX.out.1.lt
      have hs1 := HX.out.2.1.lt
      have hs2 := HW.out.2.1.size
      have hs3 := hb3.size
      have hbb := HW.out.2.1.trans (hb3.mono hs2)
      have hm2 := (HX.out.2.1.later HW.out.2.1).later hb3
      have hm1 := (HX.out.1.later HW.out.2.1).later hb3
      have HN : Hid (∀ o : Obj, Own (w3.alloc o) w1.heap.size 9 (rtx.map fun l => .string (strOfNums l)) ∧ Own (w3.alloc o) (w1.heap.size + 1) 29 (rerr.map (Value.int .i64)) ∧ Below w.heap.size w (w3.alloc o)) := fun o => by
        have hb4 := (Below.refl w3.heap.size w3).alloc (Nat.le_refl _) o
        exact ⟨hm1.later hb4, hm2.later hb4, HX.out.2.2.trans ((hbb.trans (hb4.mono (by omega))).mono HX.out.2.2.size)⟩
      have hc3 : w3.cell? ⟨w1.heap.size + 1, k, none⟩ = some (.int .i64 er) := ((hb3.cell (by simp only []; omega)).trans (HW.out.2.1.cell (by simp only []; omega))).trans hc2
      have hk13 : w1.heap.size + 1 < w3.heap.size := by omega
      clear hbb hm1 hm2 hb3 hv3 hc1 hc2 hconv
      rcases HW.out.2.2.2.2.2 with ⟨rfl, htok⟩ | ⟨her, hkind⟩
      · generalize (reqOf (takeReq l)).token = tk at *
        subst htok
        go_wp2
        refine ⟨⟨k + 1, by omega, by go_num, HN.out _⟩, ?_⟩
        simp [intOf]; omega
      · generalize (reqOf (takeReq l)).kind = kd at *
        subst hkind
        have her2 : (er != 0) = true := by simpa using her
        have her3 : (er == 0) = false := by simpa using her
        go_wp2
        refine ⟨⟨k + 1, by omega, by go_num, HN.out _⟩, ?_⟩
        simp [intOf]; omega
    · obtain rfl : k = 13 := by omega
      go_wp2
      go_ret
      exact ⟨rfl, HX.out.2.2⟩
end Go.Proofs.Ytnjbijndfbobbaa
