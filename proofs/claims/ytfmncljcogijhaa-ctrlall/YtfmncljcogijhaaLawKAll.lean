/- The walk of CtrlAll. -/
import Derived.Test.YtfmncljcogijhaaBegun10
import Derived.Test.YtfmncljcogijhaaRefCtrl2
import Derived.Test.YtfmncljcogijhaaRows1
import Derived.Test.YtfmncljcogijhaaRowsB
namespace Go.Proofs.Ytfmncljcogijhaa
open Go.RowKit
set_option maxRecDepth 100000
set_option linter.unusedVariables false

def tab8 : List Int := [2, 3, 4, 5, 11, 11, 11, 1]
def opOf (x : Int) : Int := tab8.getD (x % 8).toNat 0
theorem lit_int (w : World) (l : List Int) (j : Nat) (hj : j < l.length) : (w.alloc (.cells (l.map (Value.int .i64)).toArray 3)).cell? ⟨w.heap.size, j, none⟩ = some (.int .i64 (l.getD j 0)) := by
  have h := (Own.new w 3 (l.map (Value.int .i64))).cell j
  rw [h, List.getElem?_map, List.getElem?_eq_getElem hj]
  simp [List.getD_eq_getElem?_getD, List.getElem?_eq_getElem hj]
set_option maxHeartbeats 2000000 in
theorem ctrlAll_core (A : Option Addr) (l : List Int) (n c : Nat) (w : World) (h : Rd w w.heap.size A l) (hn : n = l.length) (hl : n ≤ maxLen) (hnc : n ≤ c) (hcm : c ≤ maxLen) :
    Calls Try.prog 3 #[.slice A n c] w fun e w' => e = .returned (.bool true) ∧ Below w.heap.size w w' := by
  have HR := Lib.hid h
  have HN := Lib.hid hn
  clear h hn hnc hcm
  unfold maxLen at hl
  by_cases h20 : 60 < n
  · go_enter Try.func3, Try.ntmps3
    go_wp2_with fail
    refine (begun10_any w).mono ?_
    rintro e w1 ⟨rfl, hb1⟩
    have HB1 := Lib.hid hb1
    clear hb1
    go_wp2
    go_ret
    exact ⟨rfl, HB1.out⟩
  · go_enter Try.func3, Try.ntmps3
    go_wp2_with fail
    refine (begun10_any w).mono ?_
    rintro e w1 ⟨rfl, hb1⟩
    have HR1 := Lib.hid (HR.out.later hb1)
    have HB1 := Lib.hid hb1
    clear hb1
    go_wp2
    go_loopw [3, 4] (fun v i wr => ∃ (k : Nat), k ≤ n ∧ i = .int .i64 k ∧ Hid (OwnN (fun _ => False) wr w1.heap.size v ((l.take k).map fun x => opI (opOf x)) ∧ Below w1.heap.size w1 wr)) (fun _ i _ => n - (intOf i).toNat)
    case atStart => exact ⟨0, Nat.zero_le _, rfl, OwnN.nil _ _ _, Below.refl _ _⟩
    case round =>
      obtain ⟨k, hk, rfl, HX⟩ := hrel
      obtain ⟨A1, c1, rfl, -, -, -⟩ := RdV.of_own HX.out.1.1
      by_cases hlt : k < n
      · have hlt2 : (k : Int) < n := by omega
        have hb8 : Below w1.heap.size w1 (wr.alloc (.cells #[.int .i64 2, .int .i64 3, .int .i64 4, .int .i64 5, .int .i64 11, .int .i64 11, .int .i64 11, .int .i64 1] 3)) := HX.out.2.trans ((Below.refl _ _).alloc HX.out.2.size _)
        obtain ⟨ad, hA, hblk, hcell⟩ := (HR1.out.later hb8).2 k (by rw [← HN.out]; exact hlt)
        subst hA
        have hx := HR1.out.1 (l.getD k 0) (by rw [List.getD_eq_getElem?_getD, List.getElem?_eq_getElem (by rw [← HN.out]; exact hlt)]; simp)
        have hk1 : (l.take (k + 1)).map (fun x => opI (opOf x)) = (l.take k).map (fun x => opI (opOf x)) ++ [opI (opOf (l.getD k 0))] := by
          have hkl : k < l.length := by rw [← HN.out]; exact hlt
          rw [List.take_add_one, List.getElem?_eq_getElem hkl, List.getD_eq_getElem?_getD, List.getElem?_eq_getElem hkl]; simp only [Option.toList_some, List.map_append, List.map_cons, List.map_nil, Option.getD_some]
        have HK := Lib.hid hk1
        clear hk1
        generalize hxx : l.getD k 0 = x at *
        generalize hq : ((l.take k).map fun x => opI (opOf x)).length = q at *
        obtain ⟨m, hm⟩ : ∃ m : Nat, x % 8 = m := ⟨(x % 8).toNat, by omega⟩
        have hm8 : m < 8 := by omega
        have hlit := lit_int wr tab8 m hm8
        have hopm : tab8.getD m 0 = opOf x := by unfold opOf; rw [hm]; rfl
        rw [hopm] at hlit
        change (wr.alloc (.cells #[.int .i64 2, .int .i64 3, .int .i64 4, .int .i64 5, .int .i64 11, .int .i64 11, .int .i64 11, .int .i64 1] 3)).cell? _ = _ at hlit
        generalize hop : opOf x = op at *
        have hm8i : (m : Int) < 8 := by omega
        have hm0 : (0 : Int) ≤ m := by omega
        have hX8 := Lib.hid (HX.out.1.later ((Below.refl wr.heap.size wr).alloc (Nat.le_refl _) (.cells #[.int .i64 2, .int .i64 3, .int .i64 4, .int .i64 5, .int .i64 11, .int .i64 11, .int .i64 11, .int .i64 1] 3)))
        have hqk : ((l.take k).map fun x => opI (opOf x)).length ≤ 60 := by simp; omega
        have HQ := Lib.hid (And.intro hq hqk)
        have hsz := HX.out.2.size
        have hsz8 : (wr.alloc (.cells #[.int .i64 2, .int .i64 3, .int .i64 4, .int .i64 5, .int .i64 11, .int .i64 11, .int .i64 11, .int .i64 1] 3)).heap.size = wr.heap.size + 1 := by simp
        have HB8 := Lib.hid hb8
        clear hq hqk hb8 hblk hop hxx hopm
        go_wp2_with (at_builtin; refine wpList_appN1 (X := fun _ => False) rfl (.tmp 20) (.tmp 30) rfl w1.heap.size (.slice A1 q c1) ((l.take k).map fun x => opI (opOf x)) rfl hX8.out (opI op) (LabX.nil _ _ rfl) (opI_ok op) (by rw [hsz8]; rfl) (by have := HQ.out.2; omega) (by simp; omega) ?_; intro v1 w3 hv1 hw1; have hv2 := hv1.mono (Y := fun _ => False) (fun _ _ e => e.1) (fun _ _ => id); have H3 := Lib.hid (And.intro hv2 hw1.1); obtain ⟨A3, c3, rfl, -, -, -⟩ := RdV.of_own hv2.1; clear hv1 hw1 hv2)
        refine ⟨⟨k + 1, by omega, by go_num, ?_, ?_⟩, ?_⟩
        · rw [HK.out]
          have h9 := H3.out.1
          simp only [List.length_append, List.length_map, List.length_take, List.length_singleton] at h9
          exact h9
        · exact HB8.out.trans (below_chg H3.out.2 (by have := HB8.out.size; omega) fun i e => by have := owns_ge hX8.out.1 e; omega)
        · simp [intOf]; omega
      · obtain rfl : k = n := by omega
        have hk0 : l.take k = l := by rw [List.take_of_length_le (by rw [← HN.out]; exact Nat.le_refl _)]
        have hlen : ((l.take k).map fun x => opI (opOf x)).length = k := by rw [hk0, List.length_map, ← HN.out]
        have HX2 := HX.out
        rw [hk0] at HX2
        rw [List.length_map, ← HN.out] at HX2
        rw [hlen]
        obtain ⟨hown, hb⟩ := HX2
        have hrd : ∀ W, Below wr.heap.size wr W → RdN (· < W.heap.size) W (.slice A1 k c1) (l.map fun x => opI (opOf x)) := fun W hW => (hown.rd.later hW).mono fun i hi e => hi
        have HRD := Lib.hid hrd
        have HB := Lib.hid hb
        have hln : k = (l.map fun x => opI (opOf x)).length := by rw [List.length_map]; exact HN.out
        have HLN := Lib.hid hln
        have hk60 : k ≤ 5000 := by omega
        clear hk0 hlen hrd hb hown hln
        generalize l.map (fun x => opI (opOf x)) = is at *
        have C1 := Lib.hid (kblocks_any A1 k c1 is wr (HRD.out wr (Below.refl _ _)) HLN.out hk60)
        generalize hr : resB (opsOf is) = r at *
        have HR9 := Lib.hid hr
        clear hr
        go_wp2_with fail
        refine C1.out.mono ?_
        rintro e w2 ⟨v, rfl, h1, hb⟩
        obtain ⟨m1, rfl⟩ := h1.form
        have H1 := Lib.hid (And.intro h1 hb)
        have C2 := Lib.hid (rblocks_any A1 k c1 is w2 (HRD.out w2 hb) HLN.out hk60)
        rw [HR9.out] at C2
        clear h1 hb C1
        go_wp2_with fail
        refine C2.out.mono ?_
        rintro e w3 ⟨v, rfl, h1, hb⟩
        obtain ⟨m2, rfl⟩ := h1.form
        have hb3 : Below wr.heap.size wr w3 := H1.out.2.trans (hb.mono H1.out.2.size)
        have C3 := Lib.hid (rsame_any (H1.out.1.later hb) h1)
        have H3 := Lib.hid hb3
        clear h1 hb C2 hb3
        have hrr : (r.isSome == r.isSome) = true := by simp
        have hdd : ((depB r : Int) == (depB r : Int)) = true := by simp
        go_wp2_with fail
        refine C3.out.mono ?_
        rintro e w4 ⟨rfl, hb⟩
        have hb4 : Below wr.heap.size wr w4 := H3.out.trans (hb.mono H3.out.size)
        have C4 := Lib.hid (kdepth_any A1 k c1 is w4 (HRD.out w4 hb4) HLN.out hk60)
        rw [HR9.out] at C4
        have H4 := Lib.hid hb4
        clear hb C3 hb4
        go_wp2_with fail
        refine C4.out.mono ?_
        rintro e w5 ⟨rfl, hb⟩
        have hb5 : Below wr.heap.size wr w5 := H4.out.trans (hb.mono H4.out.size)
        have C5 := Lib.hid (rdepth_any A1 k c1 is w5 (HRD.out w5 hb5) HLN.out hk60)
        rw [HR9.out] at C5
        have H5 := Lib.hid hb5
        clear hb C4 hb5
        go_wp2_with fail
        refine C5.out.mono ?_
        rintro e w6 ⟨rfl, hb⟩
        have hb6 : Below wr.heap.size wr w6 := H5.out.trans (hb.mono H5.out.size)
        have H6 := Lib.hid hb6
        clear hb C5 hb6
        go_wp2
        go_ret
        exact ⟨rfl, HB1.out.trans ((HB.out.mono HB1.out.size).trans (H6.out.mono (by have := HB1.out.size; have := HB.out.size; omega)))⟩
end Go.Proofs.Ytfmncljcogijhaa
