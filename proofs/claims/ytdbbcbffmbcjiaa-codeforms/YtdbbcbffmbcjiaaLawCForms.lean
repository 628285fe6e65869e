/- The walk of CodeForms. (Written by gen_LawCForms.py.) -/
import Derived.Test.YtdbbcbffmbcjiaaBegun6
import Derived.Test.YtdbbcbffmbcjiaaConvB
import Derived.Lib.SlBytesConst
import Derived.Laws.IdiomStrings
namespace Go.Proofs.Ytdbbcbffmbcjiaa
open Go.RowKit
set_option maxRecDepth 100000
set_option linter.unusedVariables false

def ctx : List (List Int) := [[], [11], [1], [2, 64, 11], [2, 64, 11, 11], [2, 5, 11, 11], [2, 125, 11, 11], [2, 127, 11, 11], [4, 64, 5, 11, 11], [4, 64, 5, 5, 11, 11], [2, 64, 5, 11, 11], [4, 64, 2, 64, 5, 11, 11, 11], [14, 1, 2, 3, 11], [28, 1, 127, 11], [28, 2, 127, 127, 11], [28, 1, 124, 11], [208, 112, 11], [208, 127, 11], [208, 111, 11], [208, 123, 11], [40, 31, 5, 11], [40, 32, 5, 11], [63, 0, 11], [63, 1, 11], [252, 10, 0, 0, 11], [252, 10, 0, 1, 11], [252, 8, 5, 0, 11], [252, 0, 11], [252, 18, 11], [252, 128, 2, 11], [253], [67, 0], [65, 127, 11], [6, 11], [2, 95, 11, 11]]
def cerr : List Int := [3, 0, 3, 3, 0, 0, 5, 0, 0, 2, 2, 2, 0, 0, 2, 5, 0, 2, 0, 5, 0, 2, 0, 2, 0, 2, 0, 5, 2, 2, 5, 5, 0, 2, 2]
theorem ctab (k : Nat) (hk : k < 35) : ∃ l er, (ctx.map fun l => Value.string (strOfNums l))[k]? = some (.string (strOfNums l)) ∧ (cerr.map (Value.int .i64))[k]? = some (.int .i64 er) ∧ IsBytes l ∧ l.length ≤ 100 ∧ tkE (pCode l) = er ∧ ((er = 0 ∧ tkN l (pCode l) = l.length) ∨ (er ≠ 0 ∧ tkN l (pCode l) = 0 ∧ (tkL (pCode l)).length = 0)) := by
  have key : ∀ k : Fin 35, (∀ z ∈ ctx.getD k.val [], 0 ≤ z ∧ z ≤ 255) ∧ (ctx.getD k.val []).length ≤ 100 ∧ tkE (pCode (ctx.getD k.val [])) = cerr.getD k.val 0 ∧ ((cerr.getD k.val 0 = 0 ∧ tkN (ctx.getD k.val []) (pCode (ctx.getD k.val [])) = (ctx.getD k.val []).length) ∨ (cerr.getD k.val 0 ≠ 0 ∧ tkN (ctx.getD k.val []) (pCode (ctx.getD k.val [])) = 0 ∧ (tkL (pCode (ctx.getD k.val []))).length = 0)) := by decide +kernel
  obtain ⟨h1, h2, h3, h4⟩ := key ⟨k, hk⟩
  refine ⟨ctx.getD k [], cerr.getD k 0, ?_, ?_, h1, h2, h3, h4⟩
  · rw [List.getElem?_map, List.getElem?_eq_getElem (show k < ctx.length from hk), List.getD_eq_getElem?_getD, List.getElem?_eq_getElem (show k < ctx.length from hk)]; rfl
  · rw [List.getElem?_map, List.getElem?_eq_getElem (show k < cerr.length from hk), List.getD_eq_getElem?_getD, List.getElem?_eq_getElem (show k < cerr.length from hk)]; rfl
theorem rd_mark (w : World) (l : List Int) (hl : IsBytes l) (fr : Nat × Nat) : Rd (w.alloc (.cells (l.map (Value.int .u8)).toArray 5 fr)) (w.alloc (.cells (l.map (Value.int .u8)).toArray 5 fr)).heap.size (some ⟨w.heap.size, 0, none⟩) l := by
  refine ⟨hl, fun j hj => ⟨_, rfl, by simp, ?_⟩⟩
  rw [addPlain, Nat.zero_add, World.cell?_alloc_mark]
  simp [List.getElem?_eq_getElem hj, List.getD_eq_getElem?_getD]
def clast : List Int := [65, 127, 66, 127, 2, 126, 11, 2, 64, 11, 2, 2, 11, 11]
theorem clast_is : tkE (pCode clast) = 0 ∧ (tkL (pCode clast)).length = 9 ∧ ((tkL (pCode clast))[0]?.map Ins.n) = some 4294967295 ∧ ((tkL (pCode clast))[1]?.map Ins.n) = some 18446744073709551615 ∧ ((tkL (pCode clast))[2]?.map Ins.t) = some (-2) ∧ ((tkL (pCode clast))[4]?.map Ins.t) = some (-64) ∧ ((tkL (pCode clast))[6]?.map Ins.t) = some 2 := by decide +kernel
theorem map_at {is : List IV} {l : List Ins} {k : Nat} {α : Type} {f : Ins → α} {a : α} (hM : is.map IV.x = l) (h : (l[k]?.map f) = some a) : ∃ i, is[k]? = some i ∧ f i.x = a := by
  subst hM
  rw [List.getElem?_map] at h
  cases hi : is[k]? with
  | none => rw [hi] at h; cases h
  | some i => rw [hi] at h; exact ⟨i, rfl, by simpa using h⟩
set_option maxHeartbeats 8000000 in
theorem codeForms_core (w : World) : Calls Try.prog 6 #[] w fun e w' => e = .returned (.bool true) ∧ Below w.heap.size w w' := by
  go_enter Try.func6, Try.ntmps6
  go_wp2_with fail
  refine (begun6_any w).mono ?_
  rintro e w1 ⟨rfl, hb1⟩
  have HB1 := Lib.hid hb1
  clear hb1
  go_wp2
  go_loopw [3] (fun i wr => ∃ (k : Nat), k ≤ 35 ∧ i = .int .i64 k ∧ Hid (Own wr w1.heap.size 9 (ctx.map fun l => .string (strOfNums l)) ∧ Own wr (w1.heap.size + 1) 26 (cerr.map (Value.int .i64)) ∧ Below w.heap.size w wr)) (fun i _ => 35 - (intOf i).toNat)
  case atStart =>
    refine ⟨0, by omega, rfl, ?_, ?_, ?_⟩
    · exact (Own.new w1 9 (ctx.map fun l => .string (strOfNums l))).later ((Below.refl _ _).alloc (Nat.le_refl _) _)
    · have := Own.new (w1.alloc (.cells (ctx.map fun l => Value.string (strOfNums l)).toArray 9)) 26 (cerr.map (Value.int .i64))
      rw [show (w1.alloc (.cells (ctx.map fun l => Value.string (strOfNums l)).toArray 9)).heap.size = w1.heap.size + 1 from by simp] at this
      exact this
    · exact HB1.out.trans ((((Below.refl w1.heap.size w1).alloc (Nat.le_refl _) _).alloc (by simp) _).mono HB1.out.size)
  case round =>
    obtain ⟨k, hk, rfl, HX⟩ := hrel
    by_cases hlt : k < 35
    · obtain ⟨l, er, hl, he, hI, hn, hcode, hok⟩ := ctab k hlt
      have hc1 := HX.out.1.cell k
      have hc2 := HX.out.2.1.cell k
      rw [hl] at hc1
      rw [he] at hc2
      obtain ⟨cc, W, hconv, hrd, hbw, hcc1, hcc2⟩ := conv_bytes wr l hI (by omega)
      have hlt2 : (k : Int) < 35 := by omega
      have hss : ((strOfNums l).size : Int) = l.length := by rw [strOfNums_size]
      have HW := Lib.hid (And.intro hrd (And.intro hbw (And.intro hcc1 (And.intro hcc2 (And.intro hcode hok)))))
      clear hrd hbw hcc1 hcc2 hcode hok hl he hI
      generalize hll : l.length = ll at *
      have HLL := Lib.hid hll
      clear hll
      go_wp2_with fail
      refine (ctake_any _ l ll cc W HW.out.1 HLL.out.symm (by omega) HW.out.2.2.1 HW.out.2.2.2.1).mono ?_
      rintro e w3 ⟨v3, is, rfl, hv3, hM, hb3, -⟩
      rw [HW.out.2.2.2.2.1]
      obtain ⟨A3, k3, rfl, -, -, -⟩ := RdV.of_own hv3.1
      have HIL : Hid (is.length = (tkL (pCode l)).length) := by unfold Hid; rw [← hM]; simp
      have hs0 := HX.out.1.lt
      have hs1 := HX.out.2.1.lt
      have hs2 := HW.out.2.1.size
      have hs3 := hb3.size
      have hbb := HW.out.2.1.trans (hb3.mono hs2)
      have HN : Hid (Own w3 w1.heap.size 9 (ctx.map fun l => .string (strOfNums l)) ∧ Own w3 (w1.heap.size + 1) 26 (cerr.map (Value.int .i64)) ∧ Below w.heap.size w w3) := ⟨(HX.out.1.later HW.out.2.1).later hb3, (HX.out.2.1.later HW.out.2.1).later hb3, HX.out.2.2.trans (hbb.mono HX.out.2.2.size)⟩
      have hc3 : w3.cell? ⟨w1.heap.size + 1, k, none⟩ = some (.int .i64 er) := ((hb3.cell (by simp only []; omega)).trans (HW.out.2.1.cell (by simp only []; omega))).trans hc2
      have hc4 : w3.cell? ⟨w1.heap.size, k, none⟩ = some (.string (strOfNums l)) := ((hb3.cell (by simp only []; omega)).trans (HW.out.2.1.cell (by simp only []; omega))).trans hc1
      clear hbb hb3 hc1 hc2 hconv hv3 hM
      rcases HW.out.2.2.2.2.2 with ⟨rfl, hrd⟩ | ⟨her, hrd, hz⟩
      · rw [hrd]
        clear hrd
        generalize is.length = ql at *
        go_wp2
        refine ⟨⟨k + 1, by omega, by go_num, HN.out⟩, ?_⟩
        simp [intOf]; omega
      · rw [hrd]
        have hz2 : is.length = 0 := by rw [HIL.out]; exact hz
        rw [hz2]
        have her2 : (er != er) = false := by simp
        have her3 : (er == 0) = false := by simpa using her
        have her4 : (er != 0) = true := by simpa using her
        clear hrd hz her
        go_wp2
        refine ⟨⟨k + 1, by omega, by go_num, HN.out⟩, ?_⟩
        simp [intOf]; omega
    · obtain rfl : k = 35 := by omega
      have HB := Lib.hid HX.out.2.2
      clear HX
      have HL := Lib.hid (below_a wr (.cells #[.int .u8 65, .int .u8 127, .int .u8 66, .int .u8 127, .int .u8 2, .int .u8 126, .int .u8 11, .int .u8 2, .int .u8 64, .int .u8 11, .int .u8 2, .int .u8 2, .int .u8 11, .int .u8 11] 5 (14, 15)))
      have kc := fun (w : World) (C : Array Value) (n c : Nat) => Lib.run_convert_bytes_const (P := Try.prog) w 22 5 C n c under_bytes under_byte
      have T1 := Lib.hid (ctake_any (some ⟨wr.heap.size, 0, none⟩) clast 14 14 _ (rd_mark wr clast (fun z hz => by simp [clast] at hz; omega) (14, 15)) rfl (by omega) (by omega) (by decide))
      go_wp2_with fail
      refine T1.out.mono ?_
      rintro e w3 ⟨v3, is, rfl, hv3, hM, hb3, -⟩
      obtain ⟨q1, q2, q3, q4, q5, q6, q7⟩ := clast_is
      rw [q1]
      have hlen : is.length = 9 := by have := congrArg List.length hM; rw [q2] at this; simpa using this
      obtain ⟨A3, k3, rfl, -, -, -⟩ := RdV.of_own hv3.1
      have hR := hv3.rd
      obtain ⟨i0, h0, e0⟩ := map_at hM q3
      obtain ⟨i1, h1, e1⟩ := map_at hM q4
      obtain ⟨i2, h2, e2⟩ := map_at hM q5
      obtain ⟨i4, h4, e4⟩ := map_at hM q6
      obtain ⟨i6, h6, e6⟩ := map_at hM q7
      have HB3 := Lib.hid (HB.out.trans ((HL.out.trans (hb3.mono HL.out.size)).mono HB.out.size))
      have F0 := hR.at_ h0
      have F1 := hR.at_ h1
      have F2 := hR.at_ h2
      have F4 := hR.at_ h4
      have F6 := hR.at_ h6
      rw [e0] at F0
      rw [e1] at F1
      rw [e2] at F2
      rw [e4] at F4
      rw [e6] at F6
      obtain ⟨bb, ob, rfl, -, -, -, -, -, a0, -, -⟩ := F0
      obtain ⟨bx, ox, hx1, -, -, -, -, -, a1, -, -⟩ := F1
      injection hx1 with hx1; injection hx1 with hx2 hx3; subst hx2 hx3
      obtain ⟨bx, ox, hx1, -, -, -, -, -, -, -, a2⟩ := F2
      injection hx1 with hx1; injection hx1 with hx2 hx3; subst hx2 hx3
      obtain ⟨bx, ox, hx1, -, -, -, -, -, -, -, a4⟩ := F4
      injection hx1 with hx1; injection hx1 with hx2 hx3; subst hx2 hx3
      obtain ⟨bx, ox, hx1, -, -, -, -, -, -, -, a6⟩ := F6
      injection hx1 with hx1; injection hx1 with hx2 hx3; subst hx2 hx3
      simp only [Nat.zero_mul, Nat.add_zero] at a0
      rw [hlen]
      clear kc hv3 hM hb3 hR h0 h1 h2 h4 h6 e0 e1 e2 e4 e6 q1 q2 q3 q4 q5 q6 q7 T1 HL HB hlen
      go_wp2
      go_ret
      exact ⟨rfl, HB3.out⟩
end Go.Proofs.Ytdbbcbffmbcjiaa
