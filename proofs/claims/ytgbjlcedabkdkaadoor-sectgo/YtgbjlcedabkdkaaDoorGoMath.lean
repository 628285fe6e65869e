/- string([]rune(s)): the same just where s is UTF-8. No function of the program. -/
import Derived.Test.YtgbjlcedabkdkaaDoorUtf8Math
import Derived.Lib.MapLaws
import Derived.Lib.RuneBytes
import Derived.Laws.Cover4
import Derived.Laws.IdiomStrings
namespace Go.Proofs.YtgbjlcedabkdkaaDoor
open Go.RowKit
set_option maxRecDepth 100000
set_option linter.unusedVariables false

theorem u8n (a : Nat) (b : Int) (h : b = a) : b.toNat.toUInt8 = UInt8.ofNat a := by subst h; rfl
theorem encode_L (r : Nat) : (Utf8.encode (r : Int)).data.toList = Lib.encodeRune (r : Int) := by
  unfold Utf8.encode Lib.encodeRune
  by_cases hv : Utf8.valid (r : Int) = true
  · simp only [hv, if_true]
    simp only [Utf8.valid, Bool.or_eq_true, Bool.and_eq_true, decide_eq_true_eq] at hv
    rw [Int.toNat_natCast]
    by_cases h1 : r < 128
    · rw [if_pos h1, Lib.encodeRuneZ_one (by omega) (by omega)]
      simp only [List.map_cons, List.map_nil]
      rw [u8n r _ rfl]
    · rw [if_neg h1]
      by_cases h2 : r < 2048
      · rw [if_pos h2, Lib.encodeRuneZ_two (by omega) (by omega)]
        simp only [List.map_cons, List.map_nil]
        rw [u8n (192 + r / 64) _ (by omega), u8n (128 + r % 64) _ (by omega)]
      · rw [if_neg h2]
        by_cases h3 : r < 65536
        · rw [if_pos h3, Lib.encodeRuneZ_three (by omega)]
          simp only [List.map_cons, List.map_nil]
          rw [u8n (224 + r / 4096) _ (by omega), u8n (128 + r / 64 % 64) _ (by omega), u8n (128 + r % 64) _ (by omega)]
        · rw [if_neg h3, Lib.encodeRuneZ_four (by omega) (by omega)]
          simp only [List.map_cons, List.map_nil]
          rw [u8n (240 + r / 262144) _ (by omega), u8n (128 + r / 4096 % 64) _ (by omega), u8n (128 + r / 64 % 64) _ (by omega), u8n (128 + r % 64) _ (by omega)]
  · have hz : Lib.encodeRuneZ (r : Int) = [239, 191, 189] := Lib.encodeRuneZ_bad (by simp only [Utf8.valid, Bool.or_eq_true, Bool.and_eq_true, decide_eq_true_eq] at hv; omega)
    rw [if_neg hv, hz]
    rfl
def runesL : Nat → List UInt8 → List Nat
  | 0, _ => []
  | n + 1, l => if l = [] then [] else (Lib.decodeL l).1 :: runesL n (l.drop (Lib.decodeL l).2)
def reL (n : Nat) (l : List UInt8) : List UInt8 := (runesL n l).flatMap fun (r : Nat) => Lib.encodeRune (r : Int)
theorem reL_iff : ∀ (n : Nat) (l : List UInt8), l.length ≤ n → (reL n l = l ↔ Lib.validD l = true) := by
  intro n
  induction n with
  | zero =>
    intro l h
    obtain rfl : l = [] := List.eq_nil_of_length_eq_zero (by omega)
    simp [reL, runesL, Lib.validD_nil]
  | succ n ih =>
    intro l h
    by_cases hl : l = []
    · subst hl; simp [reL, runesL, Lib.validD_nil]
    · rw [Lib.validD_step l hl]
      have hw := Lib.decodeL_width l
      have hln : 0 < l.length := List.length_pos_iff.2 hl
      have hre : reL (n + 1) l = Lib.encodeRune ((Lib.decodeL l).1 : Int) ++ reL n (l.drop (Lib.decodeL l).2) := by
        simp [reL, runesL, hl]
      rw [hre]
      by_cases hb : (Lib.decodeL l).1 = 65533 ∧ (Lib.decodeL l).2 = 1
      · rw [if_pos hb]
        simp only [Bool.false_eq_true, iff_false]
        intro he
        rw [hb.1] at he
        have e3 : Lib.encodeRune ((65533 : Nat) : Int) = [239, 191, 189] := by decide
        rw [e3] at he
        have hN := Lib.decodeL_N l
        have h2 := hb.2
        rw [hN, ← he] at h2
        simp [Lib.decodeN] at h2
      · rw [if_neg hb, Lib.encode_decode l hl hb]
        have := ih (l.drop (Lib.decodeL l).2) (by simp; omega)
        rw [← this]
        constructor
        · intro he
          have h2 : List.take (Lib.decodeL l).2 l ++ reL n (List.drop (Lib.decodeL l).2 l) = List.take (Lib.decodeL l).2 l ++ List.drop (Lib.decodeL l).2 l := by rw [he, List.take_append_drop]
          exact List.append_cancel_left h2
        · intro he
          rw [he, List.take_append_drop]
theorem runesFrom_L (s : ByteArray) : ∀ (n i : Nat) (acc : Array Value), Conv.runesFrom s n i acc = acc ++ ((runesL n (s.data.toList.drop i)).map fun r => Value.int .i32 (Int.ofNat r)).toArray := by
  intro n
  induction n with
  | zero => intro i acc; simp [Conv.runesFrom, runesL]
  | succ n ih =>
    intro i acc
    have hsz : s.size = s.data.toList.length := (Array.length_toList).symm
    unfold Conv.runesFrom runesL
    by_cases hi : i < s.size
    · have hne : s.data.toList.drop i ≠ [] := by
        intro h; have h1 := congrArg List.length h; rw [List.length_drop, List.length_nil] at h1; omega
      rw [if_pos hi, if_neg hne, Lib.decodeL_drop s i]
      simp only [ih]
      rw [List.drop_drop]
      simp
    · have hne : s.data.toList.drop i = [] := List.drop_of_length_le (by rw [← hsz]; omega)
      rw [if_neg hi, if_pos hne]; simp
theorem fold_app (f : Int → ByteArray) (ns : List Int) : ∀ (s : ByteArray), (ns.foldl (fun r n => r ++ f n) s).data.toList = s.data.toList ++ ns.flatMap fun n => (f n).data.toList := by
  induction ns with
  | nil => intro s; simp
  | cons n ns ih =>
    intro s
    rw [List.foldl_cons, ih, ByteArray.data_append, Array.toList_append, List.flatMap_cons, List.append_assoc]
theorem runesBytes_L (ns : List Nat) (s : ByteArray) : ((ns.map fun n => Int.ofNat n).foldl (fun r n => r ++ Utf8.encode n) s).data.toList = s.data.toList ++ ns.flatMap fun (r : Nat) => Lib.encodeRune (r : Int) := by
  rw [fold_app Utf8.encode, List.flatMap_map]
  refine congrArg (fun z => s.data.toList ++ z) ?_
  induction ns with
  | nil => rw [List.flatMap_nil, List.flatMap_nil]
  | cons n ns ih =>
    rw [List.flatMap_cons, List.flatMap_cons, ih, Int.ofNat_eq_natCast, encode_L]
/-- string([]rune(s)), as a list of bytes. -/
theorem back_L (l : List UInt8) (n : Nat) (hn : l.length ≤ n) : (runesBytes ((runesL n l).map fun r => Int.ofNat r)).data.toList = reL n l := by
  unfold runesBytes reL
  rw [runesBytes_L]
  rfl
theorem runesL_len : ∀ (n : Nat) (l : List UInt8), (runesL n l).length ≤ n
  | 0, l => by simp [runesL]
  | n + 1, l => by
    unfold runesL
    by_cases h : l = []
    · simp [h]
    · rw [if_neg h, List.length_cons]
      have := runesL_len n (l.drop (Lib.decodeL l).2)
      omega
theorem under_i32 : Tryd.prog.underlying 21 = some (.int .i32) := Tryd.underlying21
theorem under_runes : Tryd.prog.underlying 40 = some (.slice 21) := Tryd.underlying40
/-- The block of the runes of s, laid in w. -/
def runeW (s : ByteArray) (w : World) : World := w.drew.alloc (.cells (Conv.runesFrom s s.size 0 #[] ++ Array.replicate (grownCap w (Conv.runesFrom s s.size 0 #[]).size 0 21 - (Conv.runesFrom s s.size 0 #[]).size) (.int .i32 0)) 21)
def runeN (s : ByteArray) : Nat := (Conv.runesFrom s s.size 0 #[]).size
theorem runes_run (s : ByteArray) (hs : s.size ≤ 1000) (w : World) : (convert 9 40 (.string s)).run Tryd.prog w = .ok (.slice (some ⟨w.heap.size, 0, none⟩) (runeN s) (grownCap w (runeN s) 0 21)) (runeW s w) := by
  refine run_runes_of_string w _ _ _ s under_string under_runes under_i32 ?_
  rw [runesFrom_L]
  have := runesL_len s.size (s.data.toList.drop 0)
  simp only [Array.size_append, List.size_toArray, List.length_map]
  simp only [List.length_nil]
  omega
theorem runeW_below (s : ByteArray) (w : World) : Below w.heap.size w (runeW s w) := (Below.refl _ _).drew.alloc (Nat.le_refl _) _
theorem back_run (s : ByteArray) (w w' : World) (c : Nat) (hb : Below (runeW s w).heap.size (runeW s w) w') : (convert 40 9 (.slice (some ⟨w.heap.size, 0, none⟩) (runeN s) c)).run Tryd.prog w' = .ok (.string (runesBytes ((runesL s.size s.data.toList).map fun r => Int.ofNat r))) w' := by
  have hN : runeN s = ((runesL s.size s.data.toList).map fun r => Int.ofNat r).length := by
    unfold runeN; rw [runesFrom_L, List.drop_zero]; simp
  have h := run_convert_runes (P := Tryd.prog) w' 40 9 21 ⟨w.heap.size, 0, none⟩ (runeN s) c ((runesL s.size s.data.toList).map fun r => Int.ofNat r) (by omega) under_runes under_i32 under_string (fun j hj => by
    rw [addPlain, Nat.zero_add, hb.cell (by unfold runeW; simp)]
    unfold runeW
    rw [show w.heap.size = w.drew.heap.size from rfl, World.cell?_alloc_mark, runesFrom_L, List.drop_zero]
    rw [List.length_map] at hj
    rw [Array.append_assoc, Array.getElem?_append_right (by simp), Array.getElem?_append_left (by simpa using hj)]
    simp [hj])
  rw [h, hN, List.take_length]
end Go.Proofs.YtgbjlcedabkdkaaDoor
