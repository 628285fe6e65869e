/- Texts joined: Ints, OpKind, CodeMath, Utf8Math, SectMath, ModMath, Concat, LebPut0. -/
import Derived.Test.YtdngkbagfaeplaaJoin3
import Derived.Test.YtdngkbagfaeplaaJoin2
import Derived.Lib.ValidLaws
import Derived.Lib.EndianBits
/- Slices of ints of the call's own, and what is appended to them: what the walks lean on. No function of the program. -/
namespace Go.Proofs.Ytdngkbagfaeplaa
open Go.RowKit
set_option maxRecDepth 100000
set_option linter.unusedVariables false

theorem int_info : (Try.prog.info? 3).map (fun i => (i.zero, i.size, i.bytes)) = some (some (.int .i64 0), 1, 8) := by kernel_rfl
/-- A slice of ints in a block of the call's own. -/
def OwnI (w : World) (base : Nat) (v : Value) (l : List Int) : Prop := w.ownsRow base 3 1 v l.length (l.map (Value.int .i64))
/-- Ints that are read, in blocks of X. -/
def RdI (X : Nat → Prop) (w : World) (A : Option Addr) (l : List Int) : Prop := RdV X w A (l.map (Value.int .i64))
section
variable {X : Nat → Prop} {w w' : World} {A : Option Addr} {l : List Int} {B : Nat}
theorem RdI.chg {S : Nat → Prop} (h : RdI X w A l) (hc : Chg S w w') (hs : ∀ k, k < w.heap.size → X k → ¬ S k) : RdI X w' A l := RdV.chg h hc hs
theorem RdI.drewN (h : RdI X w A l) (n : Nat) : RdI X (w.drewN n) A l := RdV.drewN h n
theorem RdI.later (h : RdI X w A l) (hc : Below w.heap.size w w') : RdI X w' A l := RdV.later h hc
theorem RdI.mono {Y : Nat → Prop} (h : RdI X w A l) (hx : ∀ k, k < w.heap.size → X k → Y k) : RdI Y w A l := RdV.mono h hx
theorem RdI.nil (X : Nat → Prop) (w : World) (A : Option Addr) : RdI X w A [] := RdV.nil _ _ _
theorem map_i64_get {j : Nat} (hj : j < l.length) : (l.map (Value.int .i64))[j]? = some (.int .i64 (l.getD j 0)) := by
  simp [List.getElem?_eq_getElem hj, List.getD_eq_getElem?_getD]
theorem RdI.spot (h : RdI X w A l) (hp : 0 < l.length) : ∃ b o, A = some ⟨b, o, none⟩ ∧ ∀ j, j < l.length → w.cell? ⟨b, o + j, none⟩ = some (.int .i64 (l.getD j 0)) := by
  obtain ⟨b, o, hA, -, -, hc⟩ := RdV.spot h (by simpa using hp)
  exact ⟨b, o, hA, fun j hj => hc j _ (map_i64_get hj)⟩
end
theorem OwnI.nil (w : World) (base : Nat) : OwnI w base (.slice none 0 0) [] := World.ownsRow_nil w base _ _
theorem OwnI.rdI {w : World} {base : Nat} {v : Value} {l : List Int} (h : OwnI w base v l) : ∃ A c, v = .slice A l.length c ∧ l.length ≤ c ∧ c ≤ maxLen ∧ RdI (fun k => v.ownBlock = some k) w A l := RdV.of_own h
theorem OwnI.chg {S : Nat → Prop} {w w' : World} {base : Nat} {v : Value} {l : List Int} (h : OwnI w base v l) (hc : Chg S w w') (hg : ∀ g, v.ownBlock = some g → ¬ S g) : OwnI w' base v l := owns_chg h hc hg
theorem OwnI.later {w w' : World} {base : Nat} {v : Value} {l : List Int} (h : OwnI w base v l) (hb : Below w.heap.size w w') : OwnI w' base v l := h.chg (S := fun _ => False) (Chg.of_below hb) fun _ _ => id
theorem OwnI.base {w : World} {base base' : Nat} {v : Value} {l : List Int} (h : OwnI w base v l) (hb : base' ≤ base) : OwnI w base' v l := owns_base h hb

/-- The block that was just built for some ints. -/
theorem rdI_lit (w : World) (l : List Int) : RdI (fun k => k = w.heap.size) (w.alloc (.cells (l.map (Value.int .i64)).toArray 3)) (some ⟨w.heap.size, 0, none⟩) l := by
  refine fun j u hu => ⟨_, rfl, by simp, ?_⟩
  have h := (Own.new w 3 (l.map (Value.int .i64))).cell j
  rw [addPlain, Nat.zero_add, h, hu]
end Go.Proofs.Ytdngkbagfaeplaa

/- op.Width, op.Kind and what they call: what an instruction is. -/
namespace Go.Proofs.Ytdngkbagfaeplaa
open Go.RowKit
set_option maxRecDepth 100000
set_option linter.unusedVariables false

/-- How many bytes an instruction moves. -/
def wd (x : Int) : Int :=
  if x = 44 ∨ x = 45 ∨ x = 48 ∨ x = 49 ∨ x = 58 ∨ x = 60 then 1
  else if x = 46 ∨ x = 47 ∨ x = 50 ∨ x = 51 ∨ x = 59 ∨ x = 61 then 2
  else if x = 40 ∨ x = 52 ∨ x = 53 ∨ x = 54 ∨ x = 62 then 4
  else if x = 41 ∨ x = 55 then 8 else 0
/-- Of floats and vectors. -/
def fl (x : Int) : Prop := (42 ≤ x ∧ x ≤ 43) ∨ (56 ≤ x ∧ x ≤ 57) ∨ (67 ≤ x ∧ x ≤ 68) ∨ (91 ≤ x ∧ x ≤ 102) ∨ (139 ≤ x ∧ x ≤ 166) ∨ (168 ≤ x ∧ x ≤ 171) ∨ (174 ≤ x ∧ x ≤ 191) ∨ (64512 ≤ x ∧ x ≤ 64519) ∨ x = 253 ∨ (64768 ≤ x ∧ x ≤ 65023)
/-- Of numbers from the stack alone. -/
def nu (x : Int) : Prop := (69 ≤ x ∧ x ≤ 90) ∨ (103 ≤ x ∧ x ≤ 138) ∨ x = 167 ∨ (172 ≤ x ∧ x ≤ 173) ∨ (192 ≤ x ∧ x ≤ 196)
instance (x : Int) : Decidable (fl x) := by unfold fl; infer_instance
instance (x : Int) : Decidable (nu x) := by unfold nu; infer_instance
/-- What stands behind an instruction of one byte that neither reckons nor loads nor stores. -/
def kb (x : Int) : Int × Int :=
  if x = 0 ∨ x = 1 ∨ x = 5 ∨ x = 11 ∨ x = 15 ∨ x = 26 ∨ x = 27 ∨ x = 209 then (0, 0)
  else if x = 12 ∨ x = 13 ∨ x = 16 ∨ x = 32 ∨ x = 33 ∨ x = 34 ∨ x = 35 ∨ x = 36 ∨ x = 37 ∨ x = 38 ∨ x = 63 ∨ x = 64 ∨ x = 210 then (1, 0)
  else if x = 17 then (2, 0)
  else if x = 65 then (3, 0)
  else if x = 66 then (4, 0)
  else if x = 2 ∨ x = 3 ∨ x = 4 then (6, 0)
  else if x = 14 then (7, 0)
  else if x = 28 ∨ x = 208 then (8, 0)
  else (0, 2)
/-- What stands behind an instruction behind the byte 0xfc. -/
def kf (x : Int) : Int × Int :=
  if x = 64521 ∨ x = 64523 ∨ x = 64525 ∨ x = 64527 ∨ x = 64528 ∨ x = 64529 then (1, 0)
  else if x = 64520 ∨ x = 64522 ∨ x = 64524 ∨ x = 64526 then (2, 0)
  else (0, 2)
/-- What stands behind an instruction, or why it is none. -/
def kd (x : Int) : Int × Int := if fl x then (0, 5) else if nu x then (0, 0) else if 0 < wd x then (5, 0) else if 64512 ≤ x then kf x else kb x
def pr (p : Int × Int) : Value := .tuple #[.int .i64 p.1, .int .i64 p.2]

theorem within_any (x a b : Int) (w : World) : Calls Try.prog 64 #[.int .i64 x, .int .i64 a, .int .i64 b] w fun e w' => e = .returned (.bool (decide (a ≤ x ∧ x ≤ b))) ∧ w = w' := by
  go_enter Try.func64, Try.ntmps64
  go_wp2
  all_goals (go_ret; refine ⟨?_, rfl⟩; congr 2; simp_all; try omega)

set_option maxHeartbeats 1000000 in
theorem width_any (x : Int) (w : World) : Calls Try.prog 58 #[.int .i64 x] w fun e w' => e = .returned (.int .i64 (wd x)) ∧ w = w' := by
  go_enter Try.func58, Try.ntmps58
  go_wp2
  all_goals (go_ret; refine ⟨?_, rfl⟩; simp_all [wd])
set_option maxHeartbeats 1000000 in
theorem kindOfByte_any (x : Int) (w : World) : Calls Try.prog 60 #[.int .i64 x] w fun e w' => e = .returned (pr (kb x)) ∧ w = w' := by
  go_enter Try.func60, Try.ntmps60
  go_wp2
  all_goals (go_ret2; refine ⟨?_, rfl⟩; simp_all [kb, pr])
set_option maxHeartbeats 1000000 in
theorem kindBehindFC_any (x : Int) (w : World) : Calls Try.prog 59 #[.int .i64 x] w fun e w' => e = .returned (pr (kf x)) ∧ w = w' := by
  go_enter Try.func59, Try.ntmps59
  go_wp2
  all_goals (go_ret2; refine ⟨?_, rfl⟩; simp_all [kf, pr])
set_option maxHeartbeats 1000000 in
theorem ofNumbers_any (x : Int) (w : World) : Calls Try.prog 57 #[.int .i64 x] w fun e w' => e = .returned (.bool (decide (nu x))) ∧ w = w' := by
  go_enter Try.func57, Try.ntmps57
  go_wp2_with (go_at_call 64; refine (within_any _ _ _ _).mono ?_; rintro e w' ⟨rfl, rfl⟩)
  all_goals (go_ret; refine ⟨?_, rfl⟩; congr 2; simp_all [nu]; try omega)
set_option maxHeartbeats 1000000 in
theorem ofFloats_any (x : Int) (w : World) : Calls Try.prog 56 #[.int .i64 x] w fun e w' => e = .returned (.bool (decide (fl x))) ∧ w = w' := by
  go_enter Try.func56, Try.ntmps56
  go_wp2_with (go_at_call 64; refine (within_any _ _ _ _).mono ?_; rintro e w' ⟨rfl, rfl⟩)
  all_goals (go_ret; refine ⟨?_, rfl⟩; congr 2; simp_all [fl]; try omega)
set_option maxHeartbeats 1000000 in
theorem kind_any (x : Int) (w : World) : Calls Try.prog 53 #[.int .i64 x] w fun e w' => e = .returned (pr (kd x)) ∧ w = w' := by
  go_enter Try.func53, Try.ntmps53
  go_wp2_with (first | (go_at_call 56; refine (ofFloats_any _ _).mono ?_; rintro e w' ⟨rfl, rfl⟩) | (go_at_call 57; refine (ofNumbers_any _ _).mono ?_; rintro e w' ⟨rfl, rfl⟩) | (go_at_call 58; refine (width_any _ _).mono ?_; rintro e w' ⟨rfl, rfl⟩) | (go_at_call 59; refine (kindBehindFC_any _ _).mono ?_; rintro e w' ⟨rfl, rfl⟩; unfold pr) | (go_at_call 60; refine (kindOfByte_any _ _).mono ?_; rintro e w' ⟨rfl, rfl⟩; unfold pr))
  all_goals (go_ret2; refine ⟨?_, rfl⟩; simp_all [kd, pr])
  all_goals (have hw : (0 < wd x) = False := by simp; omega)
  all_goals simp only [hw, if_false, and_self]
  all_goals (have hx : (64512 ≤ x) = False := by simp; omega)
  all_goals simp only [hx, if_false, and_self]
end Go.Proofs.Ytdngkbagfaeplaa

/- Instructions as bytes: what reading them comes to, as plain functions. No function of the program. -/
namespace Go.Proofs.Ytdngkbagfaeplaa
open Go.RowKit
set_option maxRecDepth 100000
set_option linter.unusedVariables false

/-- A signed number. -/
def pS (bits : Int) : PR Int := fun l => if (rdS bits l).2.2 = 0 then .ok ((rdS bits l).1, l.drop (rdS bits l).2.1.toNat) else .error (rdS bits l).2.2
theorem pS_ok {bits : Int} {l : List Int} {u m : Int} (h : rdS bits l = (u, m, 0)) : pS bits l = .ok (u, l.drop m.toNat) := by simp [pS, h]
theorem pS_no {bits : Int} {l : List Int} {u m e : Int} (h : rdS bits l = (u, m, e)) (he : e ≠ 0) : pS bits l = .error e := by simp [pS, h, he]
theorem sx_range (u n : Int) : -9223372036854775808 ≤ sx u n ∧ sx u n < 9223372036854775808 := by
  unfold sx
  generalize IntKind.u64.wrap _ = y
  have h1 : -9223372036854775808 ≤ wrap64 y ∧ wrap64 y < 9223372036854775808 := by
    constructor <;> · unfold wrap64; omega
  generalize wrap64 y = z at *
  generalize hk : (max 0 (64 - n * 7)).toNat = k
  have hp : (1 : Int) ≤ 2 ^ k := by have : (0 : Int) < 2 ^ k := Int.pow_pos (by omega); omega
  generalize (2 : Int) ^ k = p at *
  constructor
  · rw [Int.le_ediv_iff_mul_le (by omega)]
    omega
  · rw [Int.ediv_lt_iff_lt_mul (by omega)]
    omega
theorem rdS_cases (bits : Int) (h0 : 1 ≤ bits) (hb : bits ≤ 64) (l : List Int) : rdS bits l = (0, 0, 3) ∨ rdS bits l = (0, 0, 2) ∨
    ∃ (u : Int) (m : Nat), rdS bits l = (u, (m : Int), 0) ∧ -9223372036854775808 ≤ u ∧ u < 9223372036854775808 ∧ 1 ≤ m ∧ m ≤ 10 ∧ m ≤ l.length := by
  unfold rdS
  rcases dec_cases bits fitS (by omega) l 0 0 (by omega) with h | h | ⟨u, m, h, h1, h2, h3, h4, h5⟩
  · left; simp [h]
  · right; left; simp [h]
  · right; right
    have := sx_range u m
    exact ⟨sx u m, m, by simp [h], by omega, by omega, h3, by omega, by omega⟩

structure Ins where
  op : Int
  a : Int
  b : Int
  n : Int
  l : List Int
  t : Int
deriving DecidableEq

/-- How many of what an instruction names are numbers. -/
def nums (op : Int) : Int := if op = 63 ∨ op = 64 ∨ op = 64523 ∨ op = 64522 then 0 else if op = 64520 then 1 else 2
def pZero : PR Int := seq pByte fun b l => if b = 0 then .ok (0, l) else .error 2
def pNm (op place : Int) : PR Int := if place < nums op then pU 32 else pZero
def pOp : PR Int := seq pByte fun b => if b = 252 then seq (pU 32) fun n l => if 255 < n then .error 2 else .ok (64512 + n, l) else fun l => .ok (b, l)
def pAl : PR Int := seq (pU 32) fun n l => if 31 < n then .error 2 else .ok (n, l)
/-- A block's type. -/
def pBl : PR Int := fun l => bd (pS 33 l) fun r => if 0 ≤ r.1 then .ok r else if 1 < l.length - r.2.length then .error 2 else if r.1 = -64 then .ok r else if valE (r.1 % 128) = 0 then .ok r else .error (valE (r.1 % 128))
/-- n labels more. -/
def pLb : Nat → List Int → PR (List Int)
  | 0, acc => fun l => .ok (acc, l)
  | n + 1, acc => seq (pU 32) fun x => pLb n (acc ++ [x])
def pLabels : PR (List Int) := seq (pCount 600) fun n => pLb n.toNat []
/-- The type behind select or ref.null. -/
def pTy (op : Int) : PR Int :=
  if op = 28 then seq (pU 32) fun n l => if n = 1 then pVal l else .error 2
  else seq pVal fun t l => if t = 112 ∨ t = 111 then .ok (t, l) else .error 2
def pBh (imm op : Int) : PR Ins :=
  if imm = 1 then seq (pNm op 0) fun a l => .ok (⟨op, a, 0, 0, [], 0⟩, l)
  else if imm = 2 then seq (pNm op 0) fun a => seq (pNm op 1) fun b l => .ok (⟨op, a, b, 0, [], 0⟩, l)
  else if imm = 3 then seq (pS 32) fun x l => .ok (⟨op, 0, 0, x % 4294967296, [], 0⟩, l)
  else if imm = 4 then seq (pS 64) fun x l => .ok (⟨op, 0, 0, x % 18446744073709551616, [], 0⟩, l)
  else if imm = 5 then seq pAl fun a => seq (pU 32) fun b l => .ok (⟨op, a, b, 0, [], 0⟩, l)
  else if imm = 6 then seq pBl fun t l => .ok (⟨op, 0, 0, 0, [], t⟩, l)
  else if imm = 7 then seq pLabels fun ls => seq (pU 32) fun a l => .ok (⟨op, a, 0, 0, ls, 0⟩, l)
  else if imm = 8 then seq (pTy op) fun a l => .ok (⟨op, a, 0, 0, [], 0⟩, l)
  else fun l => .ok (⟨op, 0, 0, 0, [], 0⟩, l)
/-- An instruction. -/
def pIn : PR Ins := seq pOp fun op => if (kd op).2 = 0 then pBh (kd op).1 op else fun _ => .error (kd op).2
/-- What is open behind an instruction, and whether it is the body's end; or why it may not stand there. -/
def nestP (op : Int) (o : List Int) : Except Int (List Int × Bool) :=
  if op = 2 ∨ op = 3 ∨ op = 4 then (if 32 < o.length + 1 then .error 4 else .ok (o ++ [op], false))
  else if op = 5 then (if o.getLast? = some 4 then .ok (o.dropLast ++ [5], false) else .error 2)
  else if op = 11 then (if o = [] then .ok ([], true) else .ok (o.dropLast, false))
  else .ok (o, false)
/-- An instruction, with what is open. -/
def pSt (o : List Int) : PR (Ins × List Int × Bool) := seq pIn fun x l => bd (nestP x.op o) fun r => .ok ((x, r.1, r.2), l)
/-- A body: so many instructions at the most, with what stands ahead. -/
def pBody : Nat → List Int → List Ins → PR (List Ins)
  | 0, _, _ => fun _ => .error 4
  | n + 1, o, acc => seq (pSt o) fun r => if r.2.2 then fun l => .ok (acc ++ [r.1], l) else pBody n r.2.1 (acc ++ [r.1])
def pCode : PR (List Ins) := pBody 600 [] []

/-- A block's type, the document's way. -/
def pBlR : PR Int := fun l => match l with
  | [] => .error 3
  | b :: r => if b = 64 ∨ valE b = 0 then .ok (b - 128, r) else if valE b = 5 then .error 5 else bd (pS 33 l) fun q => if q.1 < 0 then .error 2 else .ok q
theorem rdS33_low (b : Int) (r : List Int) (h0 : 0 ≤ b) (h1 : b < 128) : rdS 33 (b :: r) = (if b < 64 then b else b - 128, 1, 0) := by
  unfold rdS
  have hd : dec 33 fitS (b :: r) 0 0 = (b, 1, 0) := by
    simp only [dec]
    rw [if_neg (by rintro ⟨h, _⟩; omega), if_pos h1]
    simp; omega
  rw [hd]
  have : sx b 1 = if b < 64 then b else b - 128 := by
    unfold sx
    rw [show max 0 (64 - (1 : Int) * 7) = 57 from by omega, show (57 : Int).toNat = 57 from rfl, IntKind.wrap_u64]
    unfold wrap64
    split <;> omega
  simp [this]
theorem dec_more (bits : Int) (fit : Int → Int → Bool) (l : List Int) : ∀ (k : Nat) (x u m : Int), dec bits fit l k x = (u, m, 0) → (k : Int) + 1 ≤ m := by
  induction l with
  | nil => intro k x u m h; simp [dec] at h
  | cons c l ih =>
    intro k x u m h
    simp only [dec] at h
    split at h
    · simp at h
    · split at h
      · simp only [Prod.mk.injEq] at h; omega
      · have := ih _ _ _ _ h; omega
theorem rdS33_high (b : Int) (r : List Int) (h0 : 128 ≤ b) (h1 : b ≤ 255) {u m : Int} (h : rdS 33 (b :: r) = (u, m, 0)) : 2 ≤ m := by
  unfold rdS at h
  have hd : ∃ y, dec 33 fitS (b :: r) 0 0 = dec 33 fitS r 1 y := by
    simp only [dec]
    rw [if_neg (by rintro ⟨h, _⟩; omega), if_neg (by omega)]
    exact ⟨_, rfl⟩
  obtain ⟨y, hy⟩ := hd
  rw [hy] at h
  split at h
  · rename_i hz
    have := dec_more 33 fitS r 1 y _ _ (by rw [← hz])
    have h2 : (dec 33 fitS r 1 y).2.1 = m := congrArg (fun q : Int × Int × Int => q.2.1) h
    rw [← h2]
    simpa using this
  · simp only [Prod.mk.injEq] at h; exact absurd h.2.2 ‹_›
theorem pBl_doc (l : List Int) (hl : ∀ z ∈ l, 0 ≤ z ∧ z ≤ 255) : pBlR l = pBl l := by
  cases l with
  | nil => simp [pBlR, pBl, pS, rdS, dec]
  | cons b r =>
    obtain ⟨h0, h1⟩ := hl b (by simp)
    by_cases hb : b < 128
    · have hd := pS_ok (rdS33_low b r h0 hb)
      unfold pBlR pBl
      rw [hd]
      simp only [bd_ok, show ((1 : Int).toNat) = 1 from rfl, List.drop_succ_cons, List.drop_zero, List.length_cons]
      by_cases h64 : b < 64
      · have hv : valE b = 2 := by unfold valE; rw [if_neg (by omega), if_neg (by omega)]
        simp only [if_pos h64]
        rw [if_neg (by omega), if_neg (by omega), if_neg (by omega), if_pos h0]
      · simp only [if_neg h64]
        rw [if_neg (show ¬ 0 ≤ b - 128 by omega), if_neg (show ¬ 1 < r.length + 1 - r.length by omega), show (b - 128) % 128 = b from by omega]
        by_cases h40 : b = 64
        · subst h40; simp
        · rw [if_neg (show ¬ b - 128 = -64 by omega)]
          rcases valE_cases b with hv | hv | hv <;> rw [hv] <;> simp [h40]
          omega
    · have hv : valE b = 2 := by unfold valE; rw [if_neg (by omega), if_neg (by omega)]
      unfold pBlR pBl
      simp only [hv]
      rw [if_neg (by omega), if_neg (by omega)]
      rcases rdS_cases 33 (by omega) (by omega) (b :: r) with h | h | ⟨u, m, h, h2, h3, h4, h5, h6⟩
      · rw [pS_no h (by omega)]; rfl
      · rw [pS_no h (by omega)]; rfl
      · rw [pS_ok h]
        have hm := rdS33_high b r (by omega) h1 h
        simp only [bd_ok, Int.toNat_natCast]
        by_cases hu : 0 ≤ u
        · rw [if_neg (by omega), if_pos hu]
        · rw [if_pos (by omega), if_neg hu, if_pos]
          rw [List.length_drop]
          omega
end Go.Proofs.Ytdngkbagfaeplaa

/- Bytes that are UTF-8: plain mathematics, over the library's validD. -/
namespace Go.Proofs.Ytdngkbagfaeplaa
open Go.RowKit
set_option maxRecDepth 100000
set_option linter.unusedVariables false

def u8l (l : List Int) : List UInt8 := l.map fun z => UInt8.ofNat z.toNat
/-- Are these bytes UTF-8? -/
def vd (l : List Int) : Bool := Lib.validD (u8l l)
theorem u8l_len (l : List Int) : (u8l l).length = l.length := by simp [u8l]
theorem u8_toNat {z : Int} (h0 : 0 ≤ z) (h1 : z ≤ 255) : (UInt8.ofNat z.toNat).toNat = z.toNat := by
  rw [UInt8.toNat_ofNat_of_lt' (by simp; omega)]
theorem u8l_get (l : List Int) (hl : IsBytes l) (k : Nat) : ((u8l l).getD k 0).toNat = (l.getD k 0).toNat := by
  unfold u8l
  rw [List.getD_eq_getElem?_getD, List.getD_eq_getElem?_getD, List.getElem?_map]
  cases h : l[k]? with
  | none => rfl
  | some z =>
    obtain ⟨h0, h1⟩ := hl z (List.mem_of_getElem? h)
    simpa using u8_toNat h0 h1
theorem u8l_drop (l : List Int) (k : Nat) : u8l (l.drop k) = (u8l l).drop k := by simp [u8l, List.map_drop]
theorem u8l_take (l : List Int) (k : Nat) : u8l (l.take k) = (u8l l).take k := by simp [u8l, List.map_take]
theorem vd_nil : vd [] = true := rfl
/-- The first k bytes are below 128. -/
def AscI (l : List Int) (k : Nat) : Prop := ∀ z ∈ l.take k, z < 128
theorem vd_skip (l : List Int) (hl : IsBytes l) (k : Nat) (h : AscI l k) : vd (l.drop k) = vd l := by
  unfold vd
  rw [u8l_drop]
  refine (Lib.validD_ascii k (u8l l) fun b hb => ?_).symm
  rw [← u8l_take] at hb
  obtain ⟨z, hz, rfl⟩ := List.mem_map.1 hb
  obtain ⟨h0, h1⟩ := hl z (List.mem_of_mem_take hz)
  have := h z hz
  show (UInt8.ofNat z.toNat).toNat < 128
  rw [u8_toNat h0 h1]
  omega
theorem asc_one (x : Int) (l : List Int) (h : x < 128) : AscI (x :: l) 1 := fun z hz => by simp at hz; omega
theorem asc_add (l : List Int) (a b : Nat) (ha : AscI l a) (hb : AscI (l.drop a) b) : AscI l (a + b) := by
  intro z hz
  rw [List.take_add] at hz
  rcases List.mem_append.1 hz with h | h
  · exact ha z h
  · exact hb z h
theorem vd_lead (l : List Int) (hl : IsBytes l) (hne : l ≠ []) (h0 : 128 ≤ (l.getD 0 0).toNat) :
    vd l = match Lib.checkN l.length (l.getD 1 0).toNat (l.getD 2 0).toNat (l.getD 3 0).toNat (Lib.firstT (l.getD 0 0).toNat % 8) (Lib.accLo (Lib.firstT (l.getD 0 0).toNat / 16)) (Lib.accHi (Lib.firstT (l.getD 0 0).toNat / 16)) with
      | none => false
      | some k => vd (l.drop k) := by
  have hn : u8l l ≠ [] := fun h => hne (List.eq_nil_of_length_eq_zero (by rw [← u8l_len, h]; rfl))
  have := Lib.validD_lead (u8l l) hn (by rw [u8l_get l hl]; exact h0)
  rw [u8l_get l hl, u8l_get l hl, u8l_get l hl, u8l_get l hl, u8l_len] at this
  unfold vd
  rw [this]
  cases Lib.checkN l.length (l.getD 1 0).toNat (l.getD 2 0).toNat (l.getD 3 0).toNat (Lib.firstT (l.getD 0 0).toNat % 8) (Lib.accLo (Lib.firstT (l.getD 0 0).toNat / 16)) (Lib.accHi (Lib.firstT (l.getD 0 0).toNat / 16)) with
  | none => rfl
  | some k => simp only [u8l_drop]
/-- The number that the first eight bytes spell. -/
def wdN (l : List Int) : Nat := Lib.leNat (u8l (l.take 8))
theorem wdN_lt (l : List Int) : wdN l < 18446744073709551616 := by
  have h := Lib.leNat_lt (u8l (l.take 8))
  have h2 : (u8l (l.take 8)).length ≤ 8 := by rw [u8l_len]; simp; omega
  have h3 : 256 ^ (u8l (l.take 8)).length ≤ 256 ^ 8 := Nat.pow_le_pow_right (by omega) h2
  have h4 : (256 : Nat) ^ 8 = 18446744073709551616 := by decide
  unfold wdN
  omega
theorem wdN_asc (l : List Int) (hl : IsBytes l) (h : 8 ≤ l.length) : wdN l &&& 9259542123273814144 = 0 ↔ AscI l 8 := by
  have h2 : (u8l (l.take 8)).length = 8 := by rw [u8l_len]; simp; omega
  have := Lib.leNat_mask (u8l (l.take 8))
  rw [h2, Lib.maskN8] at this
  unfold wdN
  rw [this]
  constructor
  · intro hh z hz
    obtain ⟨h0, h1⟩ := hl z (List.mem_of_mem_take hz)
    have := hh (UInt8.ofNat z.toNat) (List.mem_map_of_mem hz)
    rw [u8_toNat h0 h1] at this
    omega
  · intro hh b hb
    obtain ⟨z, hz, rfl⟩ := List.mem_map.1 hb
    obtain ⟨h0, h1⟩ := hl z (List.mem_of_mem_take hz)
    have := hh z hz
    show (UInt8.ofNat z.toNat).toNat < 128
    rw [u8_toNat h0 h1]
    omega
theorem wdN_eq (x0 x1 x2 x3 x4 x5 x6 x7 : Int) (l : List Int) (h : IsBytes (x0 :: x1 :: x2 :: x3 :: x4 :: x5 :: x6 :: x7 :: l)) :
    ((wdN (x0 :: x1 :: x2 :: x3 :: x4 :: x5 :: x6 :: x7 :: l) : Nat) : Int) = x0 + x1 * 256 + x2 * 65536 + x3 * 16777216 + x4 * 4294967296 + x5 * 1099511627776 + x6 * 281474976710656 + x7 * 72057594037927936 := by
  have g0 := h x0 (by simp); have g1 := h x1 (by simp); have g2 := h x2 (by simp); have g3 := h x3 (by simp)
  have g4 := h x4 (by simp); have g5 := h x5 (by simp); have g6 := h x6 (by simp); have g7 := h x7 (by simp)
  simp only [wdN, u8l, List.take_succ_cons, List.take_zero, List.map_cons, List.map_nil, Lib.leNat]
  rw [u8_toNat g0.1 g0.2, u8_toNat g1.1 g1.2, u8_toNat g2.1 g2.2, u8_toNat g3.1 g3.2, u8_toNat g4.1 g4.2, u8_toNat g5.1 g5.2, u8_toNat g6.1 g6.2, u8_toNat g7.1 g7.2]
  omega
end Go.Proofs.Ytdngkbagfaeplaa

/- Sections, as plain functions of bytes. No function of the program. -/
namespace Go.Proofs.Ytdngkbagfaeplaa
open Go.RowKit
set_option maxRecDepth 100000
set_option linter.unusedVariables false

/-- The IDs that have a place, in their order. -/
def secOrder : List Int := [1, 2, 3, 4, 5, 6, 7, 8, 9, 12, 10, 11]
/-- Behind which place an ID stands that may come when k places are used. -/
def placeIn (k : Nat) (id : Int) : Option Nat := ((secOrder.drop k).findIdx? (· == id)).map fun p => k + p + 1
/-- A length, and as many bytes. -/
def pSized : PR (List Int) := seq (pU 32) fun n => pBytes n.toNat
def nameOk (b : List Int) : Bool := match pSized b with
  | .ok r => vd r.1
  | .error _ => false
/-- A section's ID, and how many places are used then. -/
def pId (k : Nat) : PR (Int × Nat) := seq pByte fun id l => if id = 0 then .ok ((0, k), l) else match placeIn k id with
  | none => .error 2
  | some k' => .ok ((id, k'), l)
/-- A section. -/
abbrev Sec := Int × List Int
def pSec (k : Nat) : PR (Sec × Nat) := seq (pId k) fun q => seq pSized fun b l => if q.1 = 0 ∧ nameOk b = false then .error 2 else .ok (((q.1, b), q.2), l)
def pSecs : Nat → Nat → List Sec → PR (List Sec)
  | 0, _, acc => fun l => .ok (acc, l)
  | n + 1, k, acc => fun l => if l = [] then .ok (acc, []) else bd (pSec k l) fun r => pSecs n r.1.2 (acc ++ [r.1.1]) r.2
def secFront : List Int := [0, 97, 115, 109, 1, 0, 0, 0]
def pFront (l : List Int) : St := if l.length < 8 then .error 3 else if l.take 8 = secFront then .ok (l.drop 8) else .error 2
/-- The sections that bytes are. -/
def split (b : List Int) : Except Int (List Sec) := bd (pFront b) fun l => bd (pSecs l.length 0 [] l) fun r => .ok r.1
def spL (r : Except Int (List Sec)) : List Sec := match r with
  | .ok q => q
  | .error _ => []
def spE (r : Except Int (List Sec)) : Int := match r with
  | .ok _ => 0
  | .error e => e

theorem placeIn_le {k k' : Nat} {id : Int} (hk : k ≤ 12) (h : placeIn k id = some k') : k < k' ∧ k' ≤ 12 ∧ secOrder.getD (k' - 1) 0 = id := by
  unfold placeIn at h
  obtain ⟨p, hp, rfl⟩ := Option.map_eq_some_iff.1 h
  obtain ⟨h1, h2, _⟩ := List.findIdx?_eq_some_iff_getElem.1 hp
  have hl : (secOrder.drop k).length = 12 - k := by simp [secOrder]
  refine ⟨by omega, by omega, ?_⟩
  simp only [beq_iff_eq, List.getElem_drop] at h2
  rw [show k + p + 1 - 1 = k + p from by omega, List.getD_eq_getElem?_getD, List.getElem?_eq_getElem (by simp [secOrder]; omega)]
  exact h2
theorem pByte_lt {l l' : List Int} {x : Int} (h : pByte l = .ok (x, l')) : l'.length < l.length := by
  cases l with
  | nil => cases h
  | cons y t => simp [pByte] at h; obtain ⟨rfl, rfl⟩ := h; simp
theorem pU_le {bits : Int} {l l' : List Int} {x : Int} (h : pU bits l = .ok (x, l')) : l'.length ≤ l.length := by
  unfold pU at h
  split at h
  · injection h with h; injection h with _ h; subst h; simp
  · cases h
theorem pBytes_le {n : Nat} {l l' x : List Int} (h : pBytes n l = .ok (x, l')) : l'.length ≤ l.length ∧ x = l.take n ∧ l' = l.drop n ∧ n ≤ l.length := by
  unfold pBytes at h
  split at h
  · rename_i hn; injection h with h; injection h with h1 h; subst h; exact ⟨by simp, h1.symm, rfl, hn⟩
  · cases h
theorem seq_ok {α β : Type} {p : PR α} {f : α → PR β} {l l' : List Int} {b : β} (h : seq p f l = .ok (b, l')) : ∃ a l1, p l = .ok (a, l1) ∧ f a l1 = .ok (b, l') := by
  unfold seq at h
  cases hp : p l with
  | error e => rw [hp] at h; cases h
  | ok r => rw [hp] at h; exact ⟨r.1, r.2, rfl, h⟩
theorem pSized_le {l l' x : List Int} (h : pSized l = .ok (x, l')) : l'.length ≤ l.length ∧ x.length ≤ l.length ∧ (IsBytes l → IsBytes x) := by
  obtain ⟨n, l1, h1, h2⟩ := seq_ok h
  obtain ⟨h3, h4, h5, h6⟩ := pBytes_le h2
  have h7 := pU_le h1
  refine ⟨by omega, by subst h4; simp; omega, fun hl => ?_⟩
  subst h4
  unfold pU at h1
  split at h1
  · injection h1 with h1; injection h1 with _ h1; subst h1
    exact fun z hz => hl z (List.mem_of_mem_drop (List.mem_of_mem_take hz))
  · cases h1
theorem pId_lt {k : Nat} {l l' : List Int} {q : Int × Nat} (hk : k ≤ 12) (h : pId k l = .ok (q, l')) : l'.length < l.length ∧ q.2 ≤ 12 := by
  obtain ⟨id, l1, h1, h2⟩ := seq_ok h
  have h3 := pByte_lt h1
  split at h2
  · injection h2 with h2; injection h2 with h4 h5; subst h4 h5; exact ⟨h3, hk⟩
  · split at h2
    · cases h2
    · rename_i k' hk'
      injection h2 with h2; injection h2 with h4 h5; subst h4 h5; exact ⟨h3, (placeIn_le hk hk').2.1⟩
theorem pSec_lt {k : Nat} {l l' : List Int} {q : Sec × Nat} (hk : k ≤ 12) (h : pSec k l = .ok (q, l')) : l'.length < l.length ∧ q.2 ≤ 12 := by
  obtain ⟨a, l1, h1, h2⟩ := seq_ok h
  obtain ⟨b, l2, h3, h4⟩ := seq_ok h2
  obtain ⟨h5, h6⟩ := pId_lt hk h1
  have h7 := (pSized_le h3).1
  split at h4
  · cases h4
  · injection h4 with h4; injection h4 with h8 h9; subst h8 h9; exact ⟨by omega, h6⟩
/-- Fuel beyond the bytes makes no difference. -/
theorem pSecs_fuel : ∀ (n m k : Nat) (acc : List Sec) (l : List Int), k ≤ 12 → l.length ≤ n → l.length ≤ m → pSecs n k acc l = pSecs m k acc l := by
  intro n
  induction n with
  | zero =>
    intro m k acc l hk h1 h2
    obtain rfl : l = [] := List.eq_nil_of_length_eq_zero (by omega)
    cases m <;> simp [pSecs]
  | succ n ih =>
    intro m k acc l hk h1 h2
    cases m with
    | zero =>
      obtain rfl : l = [] := List.eq_nil_of_length_eq_zero (by omega)
      simp [pSecs]
    | succ m =>
      simp only [pSecs]
      by_cases hl : l = []
      · simp [hl]
      · simp only [hl, if_false]
        cases hp : pSec k l with
        | error e => rfl
        | ok r =>
          have := pSec_lt (q := r.1) (l' := r.2) hk (by rw [hp])
          exact ih m _ _ _ this.2 (by omega) (by omega)
/-- What is left from a state on. -/
def goSecs (k : Nat) (acc : List Sec) (s : St) : Except Int (List Sec) := bd s fun l => bd (pSecs l.length k acc l) fun r => .ok r.1
theorem goSecs_nil (k : Nat) (acc : List Sec) : goSecs k acc (.ok []) = .ok acc := rfl
theorem goSecs_error (k : Nat) (acc : List Sec) (e : Int) : goSecs k acc (.error e) = .error e := rfl
theorem goSecs_step {k : Nat} (hk : k ≤ 12) (acc : List Sec) {l : List Int} (hl : l ≠ []) {x : Sec} {k' : Nat} (h : ∀ r l', pSec k l = .ok (r, l') → r = (x, k')) : goSecs k acc (.ok l) = goSecs k' (acc ++ [x]) (nx (pSec k) (.ok l)) := by
  unfold goSecs
  rw [bd_ok, nx_ok]
  obtain ⟨n, hn⟩ : ∃ n, l.length = n + 1 := ⟨l.length - 1, by have := List.length_pos_iff.2 hl; omega⟩
  rw [hn]
  simp only [pSecs, hl, if_false]
  cases hp : pSec k l with
  | error e => rfl
  | ok r =>
    have e := h r.1 r.2 (by rw [hp])
    have hlt := pSec_lt (q := r.1) (l' := r.2) hk (by rw [hp])
    simp only [bd_ok]
    rw [e, ← pSecs_fuel r.2.length n k' _ r.2 (by have := hlt.2; rw [e] at this; exact this) (Nat.le_refl _) (by omega)]
theorem split_eq (b : List Int) : split b = goSecs 0 [] (pFront b) := by
  unfold split goSecs
  cases pFront b <;> rfl
end Go.Proofs.Ytdngkbagfaeplaa

/- Modules: what reading them comes to, as plain functions. No function of the program. -/
namespace Go.Proofs.Ytdngkbagfaeplaa
open Go.RowKit
set_option maxRecDepth 100000
set_option linter.unusedVariables false

/-- What was read of s is x (if anything was), and the state is s' then. -/
def KP {α : Type} (p : PR α) (s : St) (x : α) (s' : St) : Prop := bd s p = bd s' fun l => .ok (x, l)
section
variable {α β : Type} {p : PR α} {f : α → PR β} {s s' : St} {x : α}
theorem KP.of (h : ∀ a l', bd s p = .ok (a, l') → x = a) : KP p s x (nx p s) := by
  unfold KP nx
  cases hp : bd s p with
  | error e => rfl
  | ok r => rw [h r.1 r.2 hp]; rfl
theorem KP.nx (h : KP p s x s') : nx p s = s' := by
  unfold KP at h; unfold Go.Proofs.Ytdngkbagfaeplaa.nx; rw [h]; cases s' <;> rfl
theorem KP.is (h : KP p s x s') : ∀ a l', bd s p = .ok (a, l') → x = a := fun a l' e => by
  unfold KP at h; rw [h] at e
  cases s' with
  | error y => cases e
  | ok l => injection e with e; injection e
theorem KP.seq (h : KP p s x s') : bd s (seq p f) = bd s' (f x) := by
  unfold KP at h
  have : bd s (Go.Proofs.Ytdngkbagfaeplaa.seq p f) = bd (bd s p) fun r => f r.1 r.2 := by cases s <;> rfl
  rw [this, h]; cases s' <;> rfl
theorem KP.pure (x : α) (s : St) : KP (fun l => .ok (x, l)) s x s := rfl
theorem KP.dead {e : Int} (h : KP p s x (.error e)) (y : α) : KP p s y (.error e) := h
end
theorem bd_fail0 {α : Type} (s : St) (e : Int) (x : α) : bd s (fun _ => .error e : PR α) = bd (failS e s) fun l => .ok (x, l) := by cases s <;> rfl

/-- A number (a byte) that is not more than most. -/
def pMost (most : Int) : PR Int := seq pByte fun k l => if most < k then .error 2 else .ok (k, l)
def pMost32 (most : Int) : PR Int := seq (pU 32) fun k l => if most < k then .error 2 else .ok (k, l)
def pRefT : PR Int := seq pVal fun t l => if t = 112 ∨ t = 111 then .ok (t, l) else .error 2
/-- n of them. -/
def pRep {α : Type} (p : PR α) : Nat → PR (List α)
  | 0 => fun l => .ok ([], l)
  | n + 1 => seq (pRep p n) fun xs => seq p fun x l => .ok (xs ++ [x], l)
def pLs {α : Type} (most : Int) (p : PR α) : PR (List α) := seq (pCount most) fun n => pRep p n.toNat
abbrev TabS := Int × Lim
abbrev GlobS := Int × Bool × List Ins
abbrev ExpS := List Int × Int × Int
abbrev ElemS := Int × Int × Int × List Ins × List (List Ins)
abbrev CodeS := List Int × List Ins
abbrev DataS := Int × List Ins × List Int
def pTab : PR TabS := seq pRefT fun t => seq pLim fun x l => .ok ((t, x), l)
def pGlob : PR GlobS := seq pVal fun t => seq (pMost 1) fun k => seq pCode fun c l => .ok ((t, decide (k = 1), c), l)
def pUName : PR (List Int) := seq (pCount 32) fun n => seq (pBytes n.toNat) fun y l => if vd y then .ok (y, l) else .error 2
def pExp : PR ExpS := seq pUName fun nm => seq (pMost 3) fun k => seq (pU 32) fun i l => .ok ((nm, k, i), l)
def pFunI : PR (List Ins) := seq (pU 32) fun f l => .ok ([⟨210, f, 0, 0, [], 0⟩, ⟨11, 0, 0, 0, [], 0⟩], l)
def modeOf (k : Int) : Int := if k % 2 = 0 then 0 else if k / 2 % 2 = 1 then 2 else 1
def pElT (k : Int) : PR Int := if k % 4 = 0 then fun l => .ok (112, l) else if k / 4 % 2 = 1 then pRefT else seq (pMost 0) fun _ l => .ok (112, l)
def pElem : PR ElemS := seq (pMost32 7) fun k =>
  seq (if k % 4 = 2 then pU 32 else fun l => .ok (0, l)) fun tb =>
  seq (if k % 2 = 0 then pCode else fun l => .ok ([], l)) fun off =>
  seq (pElT k) fun ty =>
  seq (pLs 64 (if k / 4 % 2 = 1 then pCode else pFunI)) fun is l => .ok ((modeOf k, ty, tb, off, is), l)
def pLoc : Nat → List Int → PR (List Int)
  | 0, acc => fun l => .ok (acc, l)
  | n + 1, acc => seq (pCount (64 - acc.length)) fun k => seq pVal fun t => pLoc n (acc ++ List.replicate k.toNat t)
def pLocals : PR (List Int) := seq (pU 32) fun n => pLoc n.toNat []
def pOwn : PR CodeS := seq pLocals fun ls => seq pCode fun b l => .ok ((ls, b), l)
/-- All of them. -/
def allOf {α : Type} (p : PR α) (y : List Int) : Except Int α := bd (p y) fun r => if r.2 = [] then .ok r.1 else .error 2
def pCodeS : PR CodeS := seq pSized fun y l => bd (allOf pOwn y) fun r => .ok (r, l)
def pData : PR DataS := seq (pMost32 2) fun k =>
  seq (if k = 2 then pMost32 0 else fun l => .ok (0, l)) fun _ =>
  seq (if k = 1 then fun l => .ok ([], l) else pCode) fun off =>
  seq pSized fun y l => .ok ((if k = 1 then 1 else 0, off, y), l)
/-- A module. -/
structure Mo where
  types : List Fn
  funcs : List Int
  tables : List TabS
  mems : List Lim
  globals : List GlobS
  exports : List ExpS
  starts : Bool
  start : Int
  elems : List ElemS
  counts : Bool
  count : Int
  codes : List CodeS
  datas : List DataS
def mo0 : Mo := ⟨[], [], [], [], [], [], false, 0, [], false, 0, [], []⟩
def secP (id : Int) (M : Mo) : PR Mo :=
  if id = 1 then seq (pLs 32 pFn) fun x l => .ok ({ M with types := x }, l)
  else if id = 2 then seq (pU 32) fun n l => if 0 < n then .error 5 else .ok (M, l)
  else if id = 3 then seq (pLs 32 (pU 32)) fun x l => .ok ({ M with funcs := x }, l)
  else if id = 4 then seq (pLs 4 pTab) fun x l => .ok ({ M with tables := x }, l)
  else if id = 5 then seq (pLs 4 pLim) fun x l => .ok ({ M with mems := x }, l)
  else if id = 6 then seq (pLs 16 pGlob) fun x l => .ok ({ M with globals := x }, l)
  else if id = 7 then seq (pLs 32 pExp) fun x l => .ok ({ M with exports := x }, l)
  else if id = 8 then seq (pU 32) fun x l => .ok ({ M with starts := true, start := x }, l)
  else if id = 9 then seq (pLs 16 pElem) fun x l => .ok ({ M with elems := x }, l)
  else if id = 12 then seq (pU 32) fun x l => .ok ({ M with counts := true, count := x }, l)
  else if id = 10 then seq (pLs 32 pCodeS) fun x l => .ok ({ M with codes := x }, l)
  else if id = 11 then seq (pLs 16 pData) fun x l => .ok ({ M with datas := x }, l)
  else fun l => .ok (M, l)
def secM (id : Int) (y : List Int) (M : Mo) : Except Int Mo := if id = 0 then .ok M else allOf (secP id M) y
def foldM : List Sec → Mo → Except Int Mo
  | [], M => .ok M
  | x :: xs, M => bd (secM x.1 x.2 M) (foldM xs)
/-- memory.init, data.drop. -/
def namesB (x : Ins) : Bool := decide (x.op = 64520) || decide (x.op = 64521)
def agreesS (M : Mo) : Bool := decide (M.codes.length = M.funcs.length) && (if M.counts then decide (M.count = (M.datas.length : Int)) else !(M.codes.any fun c => c.2.any namesB))
def modP (b : List Int) : Except Int Mo := if 4096 < b.length then .error 4 else bd (split b) fun xs => bd (foldM xs mo0) fun M => if agreesS M then .ok M else .error 2
theorem seq_dead {α β : Type} {p : PR α} {f : α → PR β} {s : St} {e : Int} (h : nx p s = .error e) : nx (seq p f) s = .error e := by
  cases s with
  | error y => exact h
  | ok l =>
    rw [nx_ok] at h ⊢
    unfold seq
    cases hp : p l with
    | error y => rw [hp] at h; exact h
    | ok r => rw [hp] at h; cases h
theorem pRep_dead {α : Type} {p : PR α} {s : St} {i n : Nat} {e : Int} (h : nx (pRep p i) s = .error e) (hi : i ≤ n) : nx (pRep p n) s = .error e := by
  induction n with
  | zero =>
    obtain rfl : i = 0 := by omega
    exact h
  | succ n ih =>
    rcases Nat.lt_or_ge i (n + 1) with hlt | hge
    · exact seq_dead (ih (by omega))
    · obtain rfl : i = n + 1 := by omega
      exact h
theorem pRep_step {α : Type} {p : PR α} {s s1 s2 : St} {i : Nat} {xs : List α} {x : α} (h1 : KP (pRep p i) s xs s1) (h2 : KP p s1 x s2) : KP (pRep p (i + 1)) s (xs ++ [x]) s2 := by
  unfold KP
  rw [pRep, h1.seq, h2.seq]
theorem pRep_zero {α : Type} (p : PR α) (s : St) : KP (pRep p 0) s [] s := rfl
end Go.Proofs.Ytdngkbagfaeplaa

/- slices.Grow and slices.Concat at bytes, of two slices. -/
namespace Go.Proofs.Ytdngkbagfaeplaa
open Go.RowKit
set_option maxRecDepth 100000
set_option linter.unusedVariables false

theorem zeroCells_size (z : Value) (n : Nat) (hz : z.cells = #[z]) : (Builtin.zeroCells z.cells n).size = n := by
  simp [Builtin.zeroCells, hz]

theorem grow_any (n : Nat) (w : World) (hn : n ≤ 1000000000) :
    Calls Try.prog 27 #[.slice none 0 0, .int .i64 n] w fun e w' => ∃ v, e = .returned v ∧ OwnB w' w.heap.size v [] ∧ Below w.heap.size w w' := by
  by_cases h0 : n = 0
  · subst h0
    go_enter Try.func27, Try.ntmps27
    go_wp2
    go_ret
    exact ⟨_, rfl, OwnB.nil _ _, Below.refl _ _⟩
  · obtain ⟨i, hi, hz, hs, hb⟩ := info_parts byte_info
    have hr := Lib.run_append_nil_zeros (P := Try.prog) w 44 3 44 5 i _ .i64 .i64 under_bytes Try.underlying3 hi hz n (by omega) (by omega) (by omega) (by rw [hb]; omega)
    have HR := Lib.hid hr
    clear hr
    have hc1 := grownCap_ge w n 0 5
    have hc2 := grownCap_le_maxLen w n 0 5 (by simp only [maxLen]; omega)
    have HB : Hid (Below w.heap.size w (w.drew.alloc (.cells (Builtin.zeroCells (Value.int .u8 0).cells n ++ Builtin.zeroCells (Value.int .u8 0).cells (grownCap w n 0 5 - n)) 5))) :=
      (Below.refl _ _).drew.alloc (Nat.le_refl _) _
    have HO : Hid (∀ c, c = grownCap w n 0 5 → OwnB (w.drew.alloc (.cells (Builtin.zeroCells (Value.int .u8 0).cells n ++ Builtin.zeroCells (Value.int .u8 0).cells (grownCap w n 0 5 - n)) 5)) w.heap.size (.slice (some ⟨w.heap.size, 0, none⟩) 0 c) []) := by
      rintro c rfl
      refine ⟨by simp, .inr ⟨w.heap.size, _, _, rfl, Nat.le_refl _, heap_alloc_new w.drew _, by simp, hc2, ?_, by simp⟩⟩
      simp [zeroCells_size (Value.int .u8 0) _ rfl]
      omega
    generalize grownCap w n 0 5 = gc at *
    generalize Builtin.zeroCells (Value.int .u8 0).cells n ++ Builtin.zeroCells (Value.int .u8 0).cells (gc - n) = gz at *
    have hp : (0 : Int) < (n : Int) := by omega
    go_enter Try.func27, Try.ntmps27
    go_wp2_with (at_builtin; refine Lib.wpList_append_run _ rfl (.tmp 20) (.tmp 21) _ _ rfl _ _ rfl rfl _ _ HR.out ?_)
    go_ret
    exact ⟨_, rfl, HO.out _ rfl, HB.out⟩

set_option maxHeartbeats 2000000 in
theorem concat_any (g : Nat) (A1 A2 : Option Addr) (l1 l2 : List Int) (n1 n2 c1 c2 : Nat) (w : World) (h1 : Rd w w.heap.size A1 l1) (h2 : Rd w w.heap.size A2 l2) (hn1 : n1 = l1.length) (hn2 : n2 = l2.length)
    (hb1 : n1 ≤ 100000000) (hb2 : n2 ≤ 100000000) (hg : g < w.heap.size) (hc1 : w.cell? ⟨g, 0, none⟩ = some (.slice A1 n1 c1)) (hc2 : w.cell? ⟨g, 1, none⟩ = some (.slice A2 n2 c2)) :
    Calls Try.prog 7 #[.slice (some ⟨g, 0, none⟩) 2 2] w fun e w' => ∃ v, e = .returned v ∧ OwnB w' w.heap.size v (l1 ++ l2) ∧ Below w.heap.size w w' := by
  have H1 := Lib.hid h1
  have H2 := Lib.hid h2
  have HN1 := Lib.hid hn1
  have HN2 := Lib.hid hn2
  clear h1 h2 hn1 hn2
  go_enter Try.func7, Try.ntmps7
  go_wp2
  go_loop [3, 11] (fun s i => (i = .int .i64 0 ∧ s = .int .i64 0) ∨ (i = .int .i64 1 ∧ s = .int .i64 n1) ∨ (i = .int .i64 2 ∧ s = .int .i64 (n1 + n2))) (fun _ i => 2 - (intOf i).toNat)
  case atStart => exact .inl ⟨rfl, rfl⟩
  case round =>
    rcases hrel with ⟨rfl, rfl⟩ | ⟨rfl, rfl⟩ | ⟨rfl, rfl⟩
    · go_wp2
      exact ⟨.inr (.inl ⟨rfl, rfl⟩), by simp [intOf]⟩
    · go_wp2
      exact ⟨.inr (.inr ⟨rfl, rfl⟩), by simp [intOf]⟩
    · go_wp2_with fail
      rw [show ((n1 : Int) + (n2 : Int)) = ((n1 + n2 : Nat) : Int) from by omega]
      refine (grow_any (n1 + n2) w (by omega)).mono ?_
      rintro e w' ⟨v, rfl, ho, hbl⟩
      have HO := Lib.hid ho
      have HB := Lib.hid hbl
      clear ho hbl
      go_wp2
      go_loopw [6, 27] (fun u i wr => ∃ (l : List Int), Hid (OwnB wr w.heap.size u l ∧ Below w.heap.size w wr) ∧ ((i = .int .i64 0 ∧ l = []) ∨ (i = .int .i64 1 ∧ l = l1) ∨ (i = .int .i64 2 ∧ l = l1 ++ l2))) (fun _ i _ => 2 - (intOf i).toNat)
      case atStart => exact ⟨[], ⟨HO.out, HB.out⟩, .inl ⟨rfl, rfl⟩⟩
      case round =>
        obtain ⟨l, HX, hrel⟩ := hrel
        have hd1 : wr.cell? ⟨g, 0, none⟩ = some (.slice A1 n1 c1) := (HX.out.2.cell (p := ⟨g, 0, none⟩) hg).trans hc1
        have hd2 : wr.cell? ⟨g, 1, none⟩ = some (.slice A2 n2 c2) := (HX.out.2.cell (p := ⟨g, 1, none⟩) hg).trans hc2
        clear hc1 hc2 HO HB
        rcases hrel with ⟨rfl, rfl⟩ | ⟨rfl, rfl⟩ | ⟨rfl, rfl⟩
        · go_wp2_with (at_builtin; refine wpList_app rfl (.tmp 31) (.tmp 32) rfl w.heap.size u6 [] rfl HX.out.1 A1 n1 c1 l1 rfl HN1.out (H1.out.later HX.out.2) (by simp; omega) HX.out.2.size ?_; intro v1 w1 hv1 hw1; have HV := Lib.hid (And.intro hv1 hw1); clear hv1 hw1)
          go_wp2
          exact ⟨⟨l1, ⟨by simpa using HV.out.1, HX.out.2.trans HV.out.2⟩, .inr (.inl ⟨rfl, rfl⟩)⟩, by simp [intOf]⟩
        · go_wp2_with (at_builtin; refine wpList_app rfl (.tmp 31) (.tmp 32) rfl w.heap.size u6 _ rfl HX.out.1 A2 n2 c2 l2 rfl HN2.out (H2.out.later HX.out.2) (by rw [← HN1.out]; omega) HX.out.2.size ?_; intro v1 w1 hv1 hw1; have HV := Lib.hid (And.intro hv1 hw1); clear hv1 hw1)
          go_wp2
          exact ⟨⟨_, ⟨HV.out.1, HX.out.2.trans HV.out.2⟩, .inr (.inr ⟨rfl, rfl⟩)⟩, by simp [intOf]⟩
        · go_wp2
          go_ret
          exact ⟨_, rfl, HX.out⟩

end Go.Proofs.Ytdngkbagfaeplaa

/- leb.put: two slices laid one behind the other. -/
namespace Go.Proofs.Ytdngkbagfaeplaa
open Go.RowKit
set_option maxRecDepth 100000
set_option linter.unusedVariables false

theorem put_any (A1 A2 : Option Addr) (l1 l2 : List Int) (n1 n2 c1 c2 : Nat) (w : World) (h1 : Rd w w.heap.size A1 l1) (h2 : Rd w w.heap.size A2 l2) (hn1 : n1 = l1.length) (hn2 : n2 = l2.length)
    (hb1 : n1 ≤ 100000000) (hb2 : n2 ≤ 100000000) :
    Calls Try.prog 50 #[.slice A1 n1 c1, .slice A2 n2 c2] w fun e w' => ∃ v, e = .returned v ∧ OwnB w' w.heap.size v (l1 ++ l2) ∧ Below w.heap.size w w' := by
  have H1 := Lib.hid h1
  have H2 := Lib.hid h2
  have HN1 := Lib.hid hn1
  have HN2 := Lib.hid hn2
  clear h1 h2 hn1 hn2
  go_enter Try.func50, Try.ntmps50
  go_wp2_with fail
  have hbl : Below w.heap.size w (w.alloc (.cells #[.slice A1 n1 c1, .slice A2 n2 c2] 44)) := (Below.refl _ _).alloc (Nat.le_refl _) _
  have hr := concat_any w.heap.size A1 A2 l1 l2 n1 n2 c1 c2 (w.alloc (.cells #[.slice A1 n1 c1, .slice A2 n2 c2] 44)) (H1.out.later hbl) (H2.out.later hbl) HN1.out HN2.out hb1 hb2 (by simp)
    (by rw [cell_of_row _ _ _ _ _ _ (heap_alloc_new w _)]; rfl) (by rw [cell_of_row _ _ _ _ _ _ (heap_alloc_new w _)]; rfl)
  refine hr.mono ?_
  rintro e w' ⟨v, rfl, ho, hb⟩
  have HO := Lib.hid (And.intro (ho.base (base' := w.heap.size) (by simp)) (hbl.trans (hb.mono (B' := w.heap.size) (by simp))))
  clear hr ho hb hbl
  go_wp2
  go_ret
  exact ⟨_, rfl, HO.out⟩
end Go.Proofs.Ytdngkbagfaeplaa
