/- The walk of SectForms. -/
import Derived.Test.YtgbjlcedabkdkaaDoorBegun7
import Derived.Test.YtgbjlcedabkdkaaDoorConvB
namespace Go.Proofs.YtgbjlcedabkdkaaDoor
open Go.RowKit
set_option maxRecDepth 100000
set_option linter.unusedVariables false

def stx : List (List Int) := [[], [0, 97, 115, 109, 1, 0, 0], secFront, [0, 97, 115, 109, 2, 0, 0, 0], secFront ++ [1], secFront ++ [1, 2, 0], secFront ++ [13, 0], secFront ++ [3, 0, 1, 0], secFront ++ [1, 0, 1, 0], secFront ++ [12, 0, 10, 0, 11, 0], secFront ++ [10, 0, 12, 0], secFront ++ [0, 1, 0], secFront ++ [0, 0], secFront ++ [0, 2, 1, 255], secFront ++ [0, 2, 2, 97], secFront ++ [0, 3, 1, 97, 255, 0, 1, 0]]
def serr : List Int := [3, 3, 0, 2, 3, 3, 2, 2, 2, 0, 2, 0, 2, 2, 2, 0]
theorem stab (k : Nat) (hk : k < 16) : ∃ l er, (stx.map fun l => Value.string (strOfNums l))[k]? = some (.string (strOfNums l)) ∧ (serr.map (Value.int .i64))[k]? = some (.int .i64 er) ∧ IsBytes l ∧ l.length ≤ 100 ∧ spE (split l) = er := by
  have key : ∀ k : Fin 16, (∀ z ∈ stx.getD k.val [], 0 ≤ z ∧ z ≤ 255) ∧ (stx.getD k.val []).length ≤ 100 ∧ spE (split (stx.getD k.val [])) = serr.getD k.val 0 := by decide +kernel
  obtain ⟨h1, h2, h3⟩ := key ⟨k, hk⟩
  refine ⟨stx.getD k [], serr.getD k 0, ?_, ?_, h1, h2, h3⟩
  · rw [List.getElem?_map, List.getElem?_eq_getElem (show k < stx.length from hk), List.getD_eq_getElem?_getD, List.getElem?_eq_getElem (show k < stx.length from hk)]; rfl
  · rw [List.getElem?_map, List.getElem?_eq_getElem (show k < serr.length from hk), List.getD_eq_getElem?_getD, List.getElem?_eq_getElem (show k < serr.length from hk)]; rfl
set_option maxHeartbeats 8000000 in
theorem sectForms_core (w : World) (hT : Tabs w) : Calls Tryd.prog 6 #[] w fun e w' => e = .returned (.bool true) ∧ Below w.heap.size w w' := by
  have HT := Lib.hid hT
  have HG := Lib.hid (begun7_any w hT)
  clear hT
  go_enter Tryd.func6, Tryd.ntmps6
  go_wp2_with fail
  refine HG.out.mono ?_
  rintro e w1 ⟨rfl, hb1⟩
  have HB1 := Lib.hid hb1
  clear hb1
  have kc := fun (w : World) (C : Array Value) (n c : Nat) => Lib.run_convert_bytes_const (P := Tryd.prog) w 22 5 C n c under_bytes under_byte
  go_upto_region 7 with fail
  go_loopw [4] (fun i wr => ∃ (k : Nat), k ≤ 16 ∧ i = .int .i64 k ∧ Hid (Own wr w1.heap.size 9 (stx.map fun l => .string (strOfNums l)) ∧ Own wr (w1.heap.size + 1) 25 (serr.map (Value.int .i64)) ∧ Below w.heap.size w wr)) (fun i _ => 16 - (intOf i).toNat)
  case atStart =>
    refine ⟨0, by omega, rfl, ?_, ?_, ?_⟩
    · have : Own (w1.alloc (.cells (stx.map fun l => Value.string (strOfNums l)).toArray 9)) w1.heap.size 9 (stx.map fun l => .string (strOfNums l)) := Own.new w1 _ _
      rw [show (stx.map fun l => Value.string (strOfNums l)).toArray = (#[Value.string (⟨#[]⟩ : ByteArray), Value.string ((⟨#[0, 97, 115, 109, 1, 0, 0, 0]⟩ : ByteArray).extract 0 7), Value.string (⟨#[0, 97, 115, 109, 1, 0, 0, 0]⟩ : ByteArray), Value.string (⟨#[0, 97, 115, 109, 2, 0, 0, 0]⟩ : ByteArray),
        Value.string ((⟨#[0, 97, 115, 109, 1, 0, 0, 0]⟩ : ByteArray) ++ (⟨#[1]⟩ : ByteArray)), Value.string ((⟨#[0, 97, 115, 109, 1, 0, 0, 0]⟩ : ByteArray) ++ (⟨#[1, 2, 0]⟩ : ByteArray)), Value.string ((⟨#[0, 97, 115, 109, 1, 0, 0, 0]⟩ : ByteArray) ++ (⟨#[13, 0]⟩ : ByteArray)), Value.string ((⟨#[0, 97, 115, 109, 1, 0, 0, 0]⟩ : ByteArray) ++ (⟨#[3, 0, 1, 0]⟩ : ByteArray)),
        Value.string ((⟨#[0, 97, 115, 109, 1, 0, 0, 0]⟩ : ByteArray) ++ (⟨#[1, 0, 1, 0]⟩ : ByteArray)), Value.string ((⟨#[0, 97, 115, 109, 1, 0, 0, 0]⟩ : ByteArray) ++ (⟨#[12, 0, 10, 0, 11, 0]⟩ : ByteArray)), Value.string ((⟨#[0, 97, 115, 109, 1, 0, 0, 0]⟩ : ByteArray) ++ (⟨#[10, 0, 12, 0]⟩ : ByteArray)), Value.string ((⟨#[0, 97, 115, 109, 1, 0, 0, 0]⟩ : ByteArray) ++ (⟨#[0, 1, 0]⟩ : ByteArray)),
        Value.string ((⟨#[0, 97, 115, 109, 1, 0, 0, 0]⟩ : ByteArray) ++ (⟨#[0, 0]⟩ : ByteArray)), Value.string ((⟨#[0, 97, 115, 109, 1, 0, 0, 0]⟩ : ByteArray) ++ (⟨#[0, 2, 1, 255]⟩ : ByteArray)), Value.string ((⟨#[0, 97, 115, 109, 1, 0, 0, 0]⟩ : ByteArray) ++ (⟨#[0, 2, 2, 97]⟩ : ByteArray)), Value.string ((⟨#[0, 97, 115, 109, 1, 0, 0, 0]⟩ : ByteArray) ++ (⟨#[0, 3, 1, 97, 255, 0, 1, 0]⟩ : ByteArray))] : Array Value) from by kernel_rfl] at this
      exact this.later ((Below.refl _ _).alloc (Nat.le_refl _) _)
    · have hs : ∀ o, (w1.alloc o).heap.size = w1.heap.size + 1 := fun o => by simp
      rw [← hs]
      exact Own.new _ 25 (serr.map (Value.int .i64))
    · exact HB1.out.trans ((((Below.refl w1.heap.size w1).alloc (Nat.le_refl _) _).alloc (by simp) _).mono HB1.out.size)
  case round =>
    obtain ⟨k, hk, rfl, HX⟩ := hrel
    by_cases hlt : k < 16
    · obtain ⟨l, er, hl, he, hI, hn, hcode⟩ := stab k hlt
      have hc1 := HX.out.1.cell k
      have hc2 := HX.out.2.1.cell k
      rw [hl] at hc1
      rw [he] at hc2
      obtain ⟨cc, W, hconv, hrd, hbw, hcc1, hcc2⟩ := conv_bytes wr l hI (by omega)
      have hlt2 : (k : Int) < 16 := by omega
      have hss : ((strOfNums l).size : Int) = l.length := by rw [strOfNums_size]
      have hee : (er != er) = false := by simp
      have HW := Lib.hid (And.intro hrd (And.intro hbw (And.intro hcc1 (And.intro hcc2 hcode))))
      have HTW := Lib.hid (HT.out.later (HX.out.2.2.trans (hbw.mono HX.out.2.2.size)))
      clear hrd hbw hcc1 hcc2 hcode hl he hI
      generalize hll : l.length = ll at *
      have HLL := Lib.hid hll
      clear hll
      go_wp2_with fail
      refine (ssplit_any _ l ll cc W HW.out.1 HLL.out.symm (by omega) HW.out.2.2.1 HW.out.2.2.2.1 HTW.out).mono ?_
      rintro e w3 ⟨v3, is, rfl, -, -, hb3, -⟩
      rw [HW.out.2.2.2.2]
      have h13 : Below wr.heap.size wr w3 := HW.out.2.1.trans (hb3.mono HW.out.2.1.size)
      have HX3 := Lib.hid (And.intro (HX.out.1.later h13) (And.intro (HX.out.2.1.later h13) (HX.out.2.2.trans (h13.mono HX.out.2.2.size))))
      have hc3 : w3.cell? ⟨w1.heap.size + 1, k, none⟩ = some (.int .i64 er) := by rw [h13.cell (World.block_lt_of_cell? _ _ hc2)]; exact hc2
      clear hb3 h13 hc1 hc2
      go_wp2
      refine ⟨⟨k + 1, by omega, by go_num, HX3.out⟩, ?_⟩
      simp [intOf]; omega
    · obtain rfl : k = 16 := by omega
      have hrnil : RdS (fun _ => True) wr (.slice none 0 0) [] := RdS.nil _ _
      have HJ := Lib.hid (sjoin_any _ [] 0 wr hrnil (by intro i hi; simp at hi) (by simp))
      have HBX := Lib.hid HX.out.2.2
      have hstr : (strOfNums secFront).toList = [0, 97, 115, 109, 1, 0, 0, 0] := by decide +kernel
      clear hrnil HX
      go_wp2_with fail
      refine HJ.out.mono ?_
      rintro e w3 ⟨A3, c3, rfl, p1, p2, p3, p4⟩
      simp only [List.map_nil, joinS, List.append_nil] at p1 p2 ⊢
      have hs3 : (convert 22 9 (.slice A3 8 c3)).run Tryd.prog w3 = .ok (.string (strOfNums secFront)) w3 := p1.rd.string c3
      have HB3 := Lib.hid (HBX.out.trans (p4.mono HBX.out.size))
      have HU0 := Lib.hid (sutf_any none [] 0 0 w3 (RdX.nil (fun _ => True) _ _) rfl (by omega) (HT.out.later HB3.out))
      rw [vd_nil] at HU0
      clear p1 p2 p3 p4
      rw [show secFront.length = 8 from rfl]
      go_wp2_with fail
      refine HU0.out.mono ?_
      rintro e w4 ⟨rfl, hb⟩
      have HB4 := Lib.hid (HB3.out.trans (hb.mono HB3.out.size))
      clear hb
      have hv4 : vd [237, 160, 128] = false := by decide +kernel
      have hbb4 : Below w4.heap.size w4 (w4.alloc (.cells #[.int .u8 237, .int .u8 160, .int .u8 128] 5 (3, 4))) := (Below.refl _ _).alloc (Nat.le_refl _) _
      have HU4 := Lib.hid (sutf_any _ [237, 160, 128] 3 3 _ (rd_marked w4 [237, 160, 128] (by intro z hz; simp at hz; omega) (3, 4)) rfl (by omega) (HT.out.later (HB4.out.trans (hbb4.mono HB4.out.size))))
      rw [hv4] at HU4
      have HBB4 := Lib.hid hbb4
      clear hbb4 hv4
      go_wp2_with fail
      refine HU4.out.mono ?_
      rintro e w5 ⟨rfl, hb⟩
      have HB5 := Lib.hid (HB4.out.trans ((HBB4.out.trans (hb.mono HBB4.out.size)).mono HB4.out.size))
      clear hb
      have hv5 : vd [192, 128] = false := by decide +kernel
      have hbb5 : Below w5.heap.size w5 (w5.alloc (.cells #[.int .u8 192, .int .u8 128] 5 (2, 3))) := (Below.refl _ _).alloc (Nat.le_refl _) _
      have HU5 := Lib.hid (sutf_any _ [192, 128] 2 2 _ (rd_marked w5 [192, 128] (by intro z hz; simp at hz; omega) (2, 3)) rfl (by omega) (HT.out.later (HB5.out.trans (hbb5.mono HB5.out.size))))
      rw [hv5] at HU5
      have HBB5 := Lib.hid hbb5
      clear hbb5 hv5
      go_wp2_with fail
      refine HU5.out.mono ?_
      rintro e w6 ⟨rfl, hb⟩
      have HB6 := Lib.hid (HB5.out.trans ((HBB5.out.trans (hb.mono HBB5.out.size)).mono HB5.out.size))
      clear hb
      have hv6 : vd [244, 143, 191, 191] = true := by decide +kernel
      have hbb6 : Below w6.heap.size w6 (w6.alloc (.cells #[.int .u8 244, .int .u8 143, .int .u8 191, .int .u8 191] 5 (4, 5))) := (Below.refl _ _).alloc (Nat.le_refl _) _
      have HU6 := Lib.hid (sutf_any _ [244, 143, 191, 191] 4 4 _ (rd_marked w6 [244, 143, 191, 191] (by intro z hz; simp at hz; omega) (4, 5)) rfl (by omega) (HT.out.later (HB6.out.trans (hbb6.mono HB6.out.size))))
      rw [hv6] at HU6
      have HBB6 := Lib.hid hbb6
      clear hbb6 hv6
      go_wp2_with fail
      refine HU6.out.mono ?_
      rintro e w7 ⟨rfl, hb⟩
      have HB7 := Lib.hid (HB6.out.trans ((HBB6.out.trans (hb.mono HBB6.out.size)).mono HB6.out.size))
      clear hb
      have hv7 : vd [244, 144, 128, 128] = false := by decide +kernel
      have hbb7 : Below w7.heap.size w7 (w7.alloc (.cells #[.int .u8 244, .int .u8 144, .int .u8 128, .int .u8 128] 5 (4, 5))) := (Below.refl _ _).alloc (Nat.le_refl _) _
      have HU7 := Lib.hid (sutf_any _ [244, 144, 128, 128] 4 4 _ (rd_marked w7 [244, 144, 128, 128] (by intro z hz; simp at hz; omega) (4, 5)) rfl (by omega) (HT.out.later (HB7.out.trans (hbb7.mono HB7.out.size))))
      rw [hv7] at HU7
      have HBB7 := Lib.hid hbb7
      clear hbb7 hv7
      go_wp2_with fail
      refine HU7.out.mono ?_
      rintro e w8 ⟨rfl, hb⟩
      have HB8 := Lib.hid (HB7.out.trans ((HBB7.out.trans (hb.mono HBB7.out.size)).mono HB7.out.size))
      clear hb
      go_wp2
      go_ret
      exact ⟨rfl, HB8.out⟩
end Go.Proofs.YtgbjlcedabkdkaaDoor
