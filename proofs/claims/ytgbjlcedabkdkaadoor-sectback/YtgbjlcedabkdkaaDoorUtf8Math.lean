/- Bytes that are UTF-8: plain mathematics, over the library's validD. -/
import Derived.Test.YtgbjlcedabkdkaaDoorMem
import Derived.Lib.ValidLaws
import Derived.Lib.EndianBits
namespace Go.Proofs.YtgbjlcedabkdkaaDoor
open Go.RowKit
set_option maxRecDepth 100000
set_option linter.unusedVariables false

def u8l (l : List Int) : List UInt8 := l.map fun z => UInt8.ofNat z.toNat
/-- Are these bytes UTF-8? -/
def vd (l : List Int) : Bool := Lib.validD (u8l l)
theorem u8l_len (l : List Int) : (u8l l).length = l.length := by simp [u8l]
theorem u8_toNat {z : Int} (h0 : 0 ≤ z) (h1 : z ≤ 255) : (UInt8.ofNat z.toNat).toNat = z.toNat := by
  rw [UInt8.toNat_ofNat_of_lt' (by simp; omega)]
theorem u8l_get (l : List Int) (hl : IsBytes l) (k : Nat) : ((u8l l).getD k 0).toNat = (l.getD k 0).toNat := by
  unfold u8l
  rw [List.getD_eq_getElem?_getD, List.getD_eq_getElem?_getD, List.getElem?_map]
  cases h : l[k]? with
  | none => rfl
  | some z =>
    obtain ⟨h0, h1⟩ := hl z (List.mem_of_getElem? h)
    simpa using u8_toNat h0 h1
theorem u8l_drop (l : List Int) (k : Nat) : u8l (l.drop k) = (u8l l).drop k := by simp [u8l, List.map_drop]
theorem u8l_take (l : List Int) (k : Nat) : u8l (l.take k) = (u8l l).take k := by simp [u8l, List.map_take]
theorem vd_nil : vd [] = true := rfl
/-- The first k bytes are below 128. -/
def AscI (l : List Int) (k : Nat) : Prop := ∀ z ∈ l.take k, z < 128
theorem vd_skip (l : List Int) (hl : IsBytes l) (k : Nat) (h : AscI l k) : vd (l.drop k) = vd l := by
  unfold vd
  rw [u8l_drop]
  refine (Lib.validD_ascii k (u8l l) fun b hb => ?_).symm
  rw [← u8l_take] at hb
  obtain ⟨z, hz, rfl⟩ := List.mem_map.1 hb
  obtain ⟨h0, h1⟩ := hl z (List.mem_of_mem_take hz)
  have := h z hz
  show (UInt8.ofNat z.toNat).toNat < 128
  rw [u8_toNat h0 h1]
  omega
theorem asc_one (x : Int) (l : List Int) (h : x < 128) : AscI (x :: l) 1 := fun z hz => by simp at hz; omega
theorem asc_add (l : List Int) (a b : Nat) (ha : AscI l a) (hb : AscI (l.drop a) b) : AscI l (a + b) := by
  intro z hz
  rw [List.take_add] at hz
  rcases List.mem_append.1 hz with h | h
  · exact ha z h
  · exact hb z h
theorem vd_lead (l : List Int) (hl : IsBytes l) (hne : l ≠ []) (h0 : 128 ≤ (l.getD 0 0).toNat) :
    vd l = match Lib.checkN l.length (l.getD 1 0).toNat (l.getD 2 0).toNat (l.getD 3 0).toNat (Lib.firstT (l.getD 0 0).toNat % 8) (Lib.accLo (Lib.firstT (l.getD 0 0).toNat / 16)) (Lib.accHi (Lib.firstT (l.getD 0 0).toNat / 16)) with
      | none => false
      | some k => vd (l.drop k) := by
  have hn : u8l l ≠ [] := fun h => hne (List.eq_nil_of_length_eq_zero (by rw [← u8l_len, h]; rfl))
  have := Lib.validD_lead (u8l l) hn (by rw [u8l_get l hl]; exact h0)
  rw [u8l_get l hl, u8l_get l hl, u8l_get l hl, u8l_get l hl, u8l_len] at this
  unfold vd
  rw [this]
  cases Lib.checkN l.length (l.getD 1 0).toNat (l.getD 2 0).toNat (l.getD 3 0).toNat (Lib.firstT (l.getD 0 0).toNat % 8) (Lib.accLo (Lib.firstT (l.getD 0 0).toNat / 16)) (Lib.accHi (Lib.firstT (l.getD 0 0).toNat / 16)) with
  | none => rfl
  | some k => simp only [u8l_drop]
/-- The number that the first eight bytes spell. -/
def wdN (l : List Int) : Nat := Lib.leNat (u8l (l.take 8))
theorem wdN_lt (l : List Int) : wdN l < 18446744073709551616 := by
  have h := Lib.leNat_lt (u8l (l.take 8))
  have h2 : (u8l (l.take 8)).length ≤ 8 := by rw [u8l_len]; simp; omega
  have h3 : 256 ^ (u8l (l.take 8)).length ≤ 256 ^ 8 := Nat.pow_le_pow_right (by omega) h2
  have h4 : (256 : Nat) ^ 8 = 18446744073709551616 := by decide
  unfold wdN
  omega
theorem wdN_asc (l : List Int) (hl : IsBytes l) (h : 8 ≤ l.length) : wdN l &&& 9259542123273814144 = 0 ↔ AscI l 8 := by
  have h2 : (u8l (l.take 8)).length = 8 := by rw [u8l_len]; simp; omega
  have := Lib.leNat_mask (u8l (l.take 8))
  rw [h2, Lib.maskN8] at this
  unfold wdN
  rw [this]
  constructor
  · intro hh z hz
    obtain ⟨h0, h1⟩ := hl z (List.mem_of_mem_take hz)
    have := hh (UInt8.ofNat z.toNat) (List.mem_map_of_mem hz)
    rw [u8_toNat h0 h1] at this
    omega
  · intro hh b hb
    obtain ⟨z, hz, rfl⟩ := List.mem_map.1 hb
    obtain ⟨h0, h1⟩ := hl z (List.mem_of_mem_take hz)
    have := hh z hz
    show (UInt8.ofNat z.toNat).toNat < 128
    rw [u8_toNat h0 h1]
    omega
theorem wdN_eq (x0 x1 x2 x3 x4 x5 x6 x7 : Int) (l : List Int) (h : IsBytes (x0 :: x1 :: x2 :: x3 :: x4 :: x5 :: x6 :: x7 :: l)) :
    ((wdN (x0 :: x1 :: x2 :: x3 :: x4 :: x5 :: x6 :: x7 :: l) : Nat) : Int) = x0 + x1 * 256 + x2 * 65536 + x3 * 16777216 + x4 * 4294967296 + x5 * 1099511627776 + x6 * 281474976710656 + x7 * 72057594037927936 := by
  have g0 := h x0 (by simp); have g1 := h x1 (by simp); have g2 := h x2 (by simp); have g3 := h x3 (by simp)
  have g4 := h x4 (by simp); have g5 := h x5 (by simp); have g6 := h x6 (by simp); have g7 := h x7 (by simp)
  simp only [wdN, u8l, List.take_succ_cons, List.take_zero, List.map_cons, List.map_nil, Lib.leNat]
  rw [u8_toNat g0.1 g0.2, u8_toNat g1.1 g1.2, u8_toNat g2.1 g2.2, u8_toNat g3.1 g3.2, u8_toNat g4.1 g4.2, u8_toNat g5.1 g5.2, u8_toNat g6.1 g6.2, u8_toNat g7.1 g7.2]
  omega
end Go.Proofs.YtgbjlcedabkdkaaDoor
