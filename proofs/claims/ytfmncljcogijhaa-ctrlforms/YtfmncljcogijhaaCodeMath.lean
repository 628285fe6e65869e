/- Instructions as bytes: what reading them comes to, as plain functions. No function of the program. -/
import Derived.Test.YtfmncljcogijhaaTypesSrc
import Derived.Test.YtfmncljcogijhaaOpKind
namespace Go.Proofs.Ytfmncljcogijhaa
open Go.RowKit
set_option maxRecDepth 100000
set_option linter.unusedVariables false

/-- A signed number. -/
def pS (bits : Int) : PR Int := fun l => if (rdS bits l).2.2 = 0 then .ok ((rdS bits l).1, l.drop (rdS bits l).2.1.toNat) else .error (rdS bits l).2.2
theorem pS_ok {bits : Int} {l : List Int} {u m : Int} (h : rdS bits l = (u, m, 0)) : pS bits l = .ok (u, l.drop m.toNat) := by simp [pS, h]
theorem pS_no {bits : Int} {l : List Int} {u m e : Int} (h : rdS bits l = (u, m, e)) (he : e ≠ 0) : pS bits l = .error e := by simp [pS, h, he]
theorem sx_range (u n : Int) : -9223372036854775808 ≤ sx u n ∧ sx u n < 9223372036854775808 := by
  unfold sx
  generalize IntKind.u64.wrap _ = y
  have h1 : -9223372036854775808 ≤ wrap64 y ∧ wrap64 y < 9223372036854775808 := by
    constructor <;> · unfold wrap64; omega
  generalize wrap64 y = z at *
  generalize hk : (max 0 (64 - n * 7)).toNat = k
  have hp : (1 : Int) ≤ 2 ^ k := by have : (0 : Int) < 2 ^ k := Int.pow_pos (by omega); omega
  generalize (2 : Int) ^ k = p at *
  constructor
  · rw [Int.le_ediv_iff_mul_le (by omega)]
    omega
  · rw [Int.ediv_lt_iff_lt_mul (by omega)]
    omega
theorem rdS_cases (bits : Int) (h0 : 1 ≤ bits) (hb : bits ≤ 64) (l : List Int) : rdS bits l = (0, 0, 3) ∨ rdS bits l = (0, 0, 2) ∨
    ∃ (u : Int) (m : Nat), rdS bits l = (u, (m : Int), 0) ∧ -9223372036854775808 ≤ u ∧ u < 9223372036854775808 ∧ 1 ≤ m ∧ m ≤ 10 ∧ m ≤ l.length := by
  unfold rdS
  rcases dec_cases bits fitS (by omega) l 0 0 (by omega) with h | h | ⟨u, m, h, h1, h2, h3, h4, h5⟩
  · left; simp [h]
  · right; left; simp [h]
  · right; right
    have := sx_range u m
    exact ⟨sx u m, m, by simp [h], by omega, by omega, h3, by omega, by omega⟩

structure Ins where
  op : Int
  a : Int
  b : Int
  n : Int
  l : List Int
  t : Int
deriving DecidableEq

/-- How many of what an instruction names are numbers. -/
def nums (op : Int) : Int := if op = 63 ∨ op = 64 ∨ op = 64523 ∨ op = 64522 then 0 else if op = 64520 then 1 else 2
def pZero : PR Int := seq pByte fun b l => if b = 0 then .ok (0, l) else .error 2
def pNm (op place : Int) : PR Int := if place < nums op then pU 32 else pZero
def pOp : PR Int := seq pByte fun b => if b = 252 then seq (pU 32) fun n l => if 255 < n then .error 2 else .ok (64512 + n, l) else fun l => .ok (b, l)
def pAl : PR Int := seq (pU 32) fun n l => if 31 < n then .error 2 else .ok (n, l)
/-- A block's type. -/
def pBl : PR Int := fun l => bd (pS 33 l) fun r => if 0 ≤ r.1 then .ok r else if 1 < l.length - r.2.length then .error 2 else if r.1 = -64 then .ok r else if valE (r.1 % 128) = 0 then .ok r else .error (valE (r.1 % 128))
/-- n labels more. -/
def pLb : Nat → List Int → PR (List Int)
  | 0, acc => fun l => .ok (acc, l)
  | n + 1, acc => seq (pU 32) fun x => pLb n (acc ++ [x])
def pLabels : PR (List Int) := seq (pCount 600) fun n => pLb n.toNat []
/-- The type behind select or ref.null. -/
def pTy (op : Int) : PR Int :=
  if op = 28 then seq (pU 32) fun n l => if n = 1 then pVal l else .error 2
  else seq pVal fun t l => if t = 112 ∨ t = 111 then .ok (t, l) else .error 2
def pBh (imm op : Int) : PR Ins :=
  if imm = 1 then seq (pNm op 0) fun a l => .ok (⟨op, a, 0, 0, [], 0⟩, l)
  else if imm = 2 then seq (pNm op 0) fun a => seq (pNm op 1) fun b l => .ok (⟨op, a, b, 0, [], 0⟩, l)
  else if imm = 3 then seq (pS 32) fun x l => .ok (⟨op, 0, 0, x % 4294967296, [], 0⟩, l)
  else if imm = 4 then seq (pS 64) fun x l => .ok (⟨op, 0, 0, x % 18446744073709551616, [], 0⟩, l)
  else if imm = 5 then seq pAl fun a => seq (pU 32) fun b l => .ok (⟨op, a, b, 0, [], 0⟩, l)
  else if imm = 6 then seq pBl fun t l => .ok (⟨op, 0, 0, 0, [], t⟩, l)
  else if imm = 7 then seq pLabels fun ls => seq (pU 32) fun a l => .ok (⟨op, a, 0, 0, ls, 0⟩, l)
  else if imm = 8 then seq (pTy op) fun a l => .ok (⟨op, a, 0, 0, [], 0⟩, l)
  else fun l => .ok (⟨op, 0, 0, 0, [], 0⟩, l)
/-- An instruction. -/
def pIn : PR Ins := seq pOp fun op => if (kd op).2 = 0 then pBh (kd op).1 op else fun _ => .error (kd op).2
/-- What is open behind an instruction, and whether it is the body's end; or why it may not stand there. -/
def nestP (op : Int) (o : List Int) : Except Int (List Int × Bool) :=
  if op = 2 ∨ op = 3 ∨ op = 4 then (if 32 < o.length + 1 then .error 4 else .ok (o ++ [op], false))
  else if op = 5 then (if o.getLast? = some 4 then .ok (o.dropLast ++ [5], false) else .error 2)
  else if op = 11 then (if o = [] then .ok ([], true) else .ok (o.dropLast, false))
  else .ok (o, false)
/-- An instruction, with what is open. -/
def pSt (o : List Int) : PR (Ins × List Int × Bool) := seq pIn fun x l => bd (nestP x.op o) fun r => .ok ((x, r.1, r.2), l)
/-- A body: so many instructions at the most, with what stands ahead. -/
def pBody : Nat → List Int → List Ins → PR (List Ins)
  | 0, _, _ => fun _ => .error 4
  | n + 1, o, acc => seq (pSt o) fun r => if r.2.2 then fun l => .ok (acc ++ [r.1], l) else pBody n r.2.1 (acc ++ [r.1])
def pCode : PR (List Ins) := pBody 600 [] []

/-- A block's type, the document's way. -/
def pBlR : PR Int := fun l => match l with
  | [] => .error 3
  | b :: r => if b = 64 ∨ valE b = 0 then .ok (b - 128, r) else if valE b = 5 then .error 5 else bd (pS 33 l) fun q => if q.1 < 0 then .error 2 else .ok q
theorem rdS33_low (b : Int) (r : List Int) (h0 : 0 ≤ b) (h1 : b < 128) : rdS 33 (b :: r) = (if b < 64 then b else b - 128, 1, 0) := by
  unfold rdS
  have hd : dec 33 fitS (b :: r) 0 0 = (b, 1, 0) := by
    simp only [dec]
    rw [if_neg (by rintro ⟨h, _⟩; omega), if_pos h1]
    simp; omega
  rw [hd]
  have : sx b 1 = if b < 64 then b else b - 128 := by
    unfold sx
    rw [show max 0 (64 - (1 : Int) * 7) = 57 from by omega, show (57 : Int).toNat = 57 from rfl, IntKind.wrap_u64]
    unfold wrap64
    split <;> omega
  simp [this]
theorem dec_more (bits : Int) (fit : Int → Int → Bool) (l : List Int) : ∀ (k : Nat) (x u m : Int), dec bits fit l k x = (u, m, 0) → (k : Int) + 1 ≤ m := by
  induction l with
  | nil => intro k x u m h; simp [dec] at h
  | cons c l ih =>
    intro k x u m h
    simp only [dec] at h
    split at h
    · simp at h
    · split at h
      · simp only [Prod.mk.injEq] at h; omega
      · have := ih _ _ _ _ h; omega
theorem rdS33_high (b : Int) (r : List Int) (h0 : 128 ≤ b) (h1 : b ≤ 255) {u m : Int} (h : rdS 33 (b :: r) = (u, m, 0)) : 2 ≤ m := by
  unfold rdS at h
  have hd : ∃ y, dec 33 fitS (b :: r) 0 0 = dec 33 fitS r 1 y := by
    simp only [dec]
    rw [if_neg (by rintro ⟨h, _⟩; omega), if_neg (by omega)]
    exact ⟨_, rfl⟩
  obtain ⟨y, hy⟩ := hd
  rw [hy] at h
  split at h
  · rename_i hz
    have := dec_more 33 fitS r 1 y _ _ (by rw [← hz])
    have h2 : (dec 33 fitS r 1 y).2.1 = m := congrArg (fun q : Int × Int × Int => q.2.1) h
    rw [← h2]
    simpa using this
  · simp only [Prod.mk.injEq] at h; exact absurd h.2.2 ‹_›
theorem pBl_doc (l : List Int) (hl : ∀ z ∈ l, 0 ≤ z ∧ z ≤ 255) : pBlR l = pBl l := by
  cases l with
  | nil => simp [pBlR, pBl, pS, rdS, dec]
  | cons b r =>
    obtain ⟨h0, h1⟩ := hl b (by simp)
    by_cases hb : b < 128
    · have hd := pS_ok (rdS33_low b r h0 hb)
      unfold pBlR pBl
      rw [hd]
      simp only [bd_ok, show ((1 : Int).toNat) = 1 from rfl, List.drop_succ_cons, List.drop_zero, List.length_cons]
      by_cases h64 : b < 64
      · have hv : valE b = 2 := by unfold valE; rw [if_neg (by omega), if_neg (by omega)]
        simp only [if_pos h64]
        rw [if_neg (by omega), if_neg (by omega), if_neg (by omega), if_pos h0]
      · simp only [if_neg h64]
        rw [if_neg (show ¬ 0 ≤ b - 128 by omega), if_neg (show ¬ 1 < r.length + 1 - r.length by omega), show (b - 128) % 128 = b from by omega]
        by_cases h40 : b = 64
        · subst h40; simp
        · rw [if_neg (show ¬ b - 128 = -64 by omega)]
          rcases valE_cases b with hv | hv | hv <;> rw [hv] <;> simp [h40]
          omega
    · have hv : valE b = 2 := by unfold valE; rw [if_neg (by omega), if_neg (by omega)]
      unfold pBlR pBl
      simp only [hv]
      rw [if_neg (by omega), if_neg (by omega)]
      rcases rdS_cases 33 (by omega) (by omega) (b :: r) with h | h | ⟨u, m, h, h2, h3, h4, h5, h6⟩
      · rw [pS_no h (by omega)]; rfl
      · rw [pS_no h (by omega)]; rfl
      · rw [pS_ok h]
        have hm := rdS33_high b r (by omega) h1 h
        simp only [bd_ok, Int.toNat_natCast]
        by_cases hu : 0 ≤ u
        · rw [if_neg (by omega), if_pos hu]
        · rw [if_pos (by omega), if_neg hu, if_pos]
          rw [List.length_drop]
          omega
end Go.Proofs.Ytfmncljcogijhaa
