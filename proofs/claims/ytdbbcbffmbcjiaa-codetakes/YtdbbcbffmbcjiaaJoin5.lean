/- Texts joined: TypesSrc, Ints, OpKind, CodeMath, ReaderS. -/
import Derived.Test.YtdbbcbffmbcjiaaJoin4
import Derived.Test.YtdbbcbffmbcjiaaJoin2
/- types' source: what its calls come to. -/
namespace Go.Proofs.Ytdbbcbffmbcjiaa
open Go.RowKit
set_option maxRecDepth 100000
set_option linter.unusedVariables false

def pAmong (ps : List Int) : PR Int := seq pByte fun x l => if x ∈ ps then .ok (x, l) else .error 2
def valE (x : Int) : Int := if x = 127 ∨ x = 126 ∨ x = 112 ∨ x = 111 then 0 else if x = 125 ∨ x = 124 ∨ x = 123 then 5 else 2
theorem valE_cases (x : Int) : valE x = 0 ∨ valE x = 5 ∨ valE x = 2 := by
  unfold valE
  by_cases h1 : x = 127 ∨ x = 126 ∨ x = 112 ∨ x = 111
  · rw [if_pos h1]; exact .inl rfl
  · rw [if_neg h1]
    by_cases h2 : x = 125 ∨ x = 124 ∨ x = 123
    · rw [if_pos h2]; exact .inr (.inl rfl)
    · rw [if_neg h2]; exact .inr (.inr rfl)
def pVal : PR Int := seq pByte fun x l => if valE x = 0 then .ok (x, l) else .error (valE x)
def pV : Nat → List Int → PR (List Int)
  | 0, acc => fun l => .ok (acc, l)
  | n + 1, acc => seq pVal fun x => pV n (acc ++ [x])
def pVals : PR (List Int) := seq (pCount 8) fun n => pV n.toNat []
abbrev Fn := List Int × List Int
def pFn : PR Fn := seq (pAmong [96]) fun _ => seq pVals fun ps => seq pVals fun rs l => .ok ((ps, rs), l)
structure Lim where
  min : Int
  max : Int
  has : Bool
deriving DecidableEq
def pLim : PR Lim := seq (pAmong [0, 1]) fun k => seq (pU 32) fun a => if k = 1 then seq (pU 32) fun b l => .ok (⟨a, b, true⟩, l) else fun l => .ok (⟨a, 0, false⟩, l)

def valT (x : Int) : Value := .tuple #[.bool (decide (valE x = 0)), .int .i64 (valE x)]
set_option maxHeartbeats 1000000 in
theorem value_any (F : Nat) (hF : F = 114 ∨ F = 102) (x : Int) (w : World) (h0 : 0 ≤ x) (h1 : x ≤ 255) :
    Calls Try.prog F #[.int .u8 x] w fun e w' => e = .returned (valT x) ∧ w = w' := by
  have key : x = 127 ∨ x = 126 ∨ x = 112 ∨ x = 111 ∨ x = 125 ∨ x = 124 ∨ x = 123 ∨ ((x == 127) = false ∧ (x == 126) = false ∧ (x == 112) = false ∧ (x == 111) = false ∧ (x == 125) = false ∧ (x == 124) = false ∧ (x == 123) = false ∧ valE x = 2) := by
    by_cases a1 : x = 127
    · exact .inl a1
    by_cases a2 : x = 126
    · exact .inr (.inl a2)
    by_cases a3 : x = 112
    · exact .inr (.inr (.inl a3))
    by_cases a4 : x = 111
    · exact .inr (.inr (.inr (.inl a4)))
    by_cases a5 : x = 125
    · exact .inr (.inr (.inr (.inr (.inl a5))))
    by_cases a6 : x = 124
    · exact .inr (.inr (.inr (.inr (.inr (.inl a6)))))
    by_cases a7 : x = 123
    · exact .inr (.inr (.inr (.inr (.inr (.inr (.inl a7))))))
    refine .inr (.inr (.inr (.inr (.inr (.inr (.inr ⟨by simpa using a1, by simpa using a2, by simpa using a3, by simpa using a4, by simpa using a5, by simpa using a6, by simpa using a7, ?_⟩))))))
    unfold valE
    rw [if_neg (by omega), if_neg (by omega)]
  rcases hF with rfl | rfl
  · rcases key with rfl | rfl | rfl | rfl | rfl | rfl | rfl | ⟨e1, e2, e3, e4, e5, e6, e7, hv⟩
    all_goals (go_enter Try.func114, Try.ntmps114; go_wp2; go_returns)
    · exact ⟨rfl, rfl⟩
    · exact ⟨rfl, rfl⟩
    · exact ⟨rfl, rfl⟩
    · exact ⟨rfl, rfl⟩
    · exact ⟨rfl, rfl⟩
    · exact ⟨rfl, rfl⟩
    · exact ⟨rfl, rfl⟩
    · unfold valT; rw [hv]; exact ⟨rfl, rfl⟩
  · rcases key with rfl | rfl | rfl | rfl | rfl | rfl | rfl | ⟨e1, e2, e3, e4, e5, e6, e7, hv⟩
    all_goals (go_enter Try.func102, Try.ntmps102; go_wp2; go_returns)
    · exact ⟨rfl, rfl⟩
    · exact ⟨rfl, rfl⟩
    · exact ⟨rfl, rfl⟩
    · exact ⟨rfl, rfl⟩
    · exact ⟨rfl, rfl⟩
    · exact ⟨rfl, rfl⟩
    · exact ⟨rfl, rfl⟩
    · unfold valT; rw [hv]; exact ⟨rfl, rfl⟩

theorem not_mem_step {l : List Int} {k : Nat} {x : Int} (hk : k < l.length) (h : x ∉ l.take k) (he : x ≠ l.getD k 0) : x ∉ l.take (k + 1) := by
  rw [List.take_add_one, List.getElem?_eq_getElem hk]
  rw [List.getD_eq_getElem?_getD, List.getElem?_eq_getElem hk] at he
  simp only [Option.getD_some] at he
  simp only [Option.toList_some, List.mem_append, List.mem_singleton, not_or]
  exact ⟨h, he⟩
theorem getD_mem {l : List Int} {k : Nat} (hk : k < l.length) : l.getD k 0 ∈ l := by
  rw [List.getD_eq_getElem?_getD, List.getElem?_eq_getElem hk]
  simp
theorem am_in {ps : List Int} {s : St} {x : Int} (h : x ∈ ps) (h3 : ∀ a l', bd s pByte = .ok (a, l') → x = a) : nx (pAmong ps) s = nx pByte s ∧ ∀ a l', bd s (pAmong ps) = .ok (a, l') → x = a := by
  cases s with
  | error e => exact ⟨rfl, fun a l' h => by cases h⟩
  | ok l =>
    simp only [nx_ok, bd_ok, pAmong, seq] at h3 ⊢
    cases hp : pByte l with
    | error e => simp
    | ok r =>
      have := h3 r.1 r.2 (by rw [hp])
      subst this
      rw [bd_ok, if_pos h]
      exact ⟨rfl, fun a l' h => by injection h with h; injection h⟩
theorem am_out {ps : List Int} {s : St} {x : Int} (h : x ∉ ps) (h3 : ∀ a l', bd s pByte = .ok (a, l') → x = a) : nx (pAmong ps) s = failS 2 (nx pByte s) ∧ ∀ a l', bd s (pAmong ps) ≠ .ok (a, l') := by
  cases s with
  | error e => exact ⟨rfl, fun a l' h => by cases h⟩
  | ok l =>
    simp only [nx_ok, bd_ok, pAmong, seq] at h3 ⊢
    cases hp : pByte l with
    | error e => simp [failS]
    | ok r =>
      have := h3 r.1 r.2 (by rw [hp])
      subst this
      rw [bd_ok, if_neg h]
      exact ⟨rfl, fun a l' h => by cases h⟩
theorem val_in {s : St} {x : Int} (h : valE x = 0) (h3 : ∀ a l', bd s pByte = .ok (a, l') → x = a) : nx pVal s = nx pByte s ∧ ∀ a l', bd s pVal = .ok (a, l') → x = a := by
  cases s with
  | error e => exact ⟨rfl, fun a l' h => by cases h⟩
  | ok l =>
    simp only [nx_ok, bd_ok, pVal, seq] at h3 ⊢
    cases hp : pByte l with
    | error e => simp
    | ok r =>
      have := h3 r.1 r.2 (by rw [hp])
      subst this
      rw [bd_ok, if_pos h]
      exact ⟨rfl, fun a l' h => by injection h with h; injection h⟩
theorem val_out {s : St} {x : Int} (h : valE x ≠ 0) (h3 : ∀ a l', bd s pByte = .ok (a, l') → x = a) : nx pVal s = failS (valE x) (nx pByte s) ∧ ∀ a l', bd s pVal ≠ .ok (a, l') := by
  cases s with
  | error e => exact ⟨rfl, fun a l' h => by cases h⟩
  | ok l =>
    simp only [nx_ok, bd_ok, pVal, seq] at h3 ⊢
    cases hp : pByte l with
    | error e => simp [failS]
    | ok r =>
      have := h3 r.1 r.2 (by rw [hp])
      subst this
      rw [bd_ok, if_neg h]
      exact ⟨rfl, fun a l' h => by cases h⟩
end Go.Proofs.Ytdbbcbffmbcjiaa

/- Slices of ints of the call's own, and what is appended to them: what the walks lean on. No function of the program. -/
namespace Go.Proofs.Ytdbbcbffmbcjiaa
open Go.RowKit
set_option maxRecDepth 100000
set_option linter.unusedVariables false

theorem under_ints : Try.prog.underlying 47 = some (.slice 3) := Try.underlying47
theorem int_info : (Try.prog.info? 3).map (fun i => (i.zero, i.size, i.bytes)) = some (some (.int .i64 0), 1, 8) := by kernel_rfl
/-- A slice of ints in a block of the call's own. -/
def OwnI (w : World) (base : Nat) (v : Value) (l : List Int) : Prop := w.ownsRow base 3 1 v l.length (l.map (Value.int .i64))
/-- Ints that are read, in blocks of X. -/
def RdI (X : Nat → Prop) (w : World) (A : Option Addr) (l : List Int) : Prop := RdV X w A (l.map (Value.int .i64))
section
variable {X : Nat → Prop} {w w' : World} {A : Option Addr} {l : List Int} {B : Nat}
theorem RdI.chg {S : Nat → Prop} (h : RdI X w A l) (hc : Chg S w w') (hs : ∀ k, k < w.heap.size → X k → ¬ S k) : RdI X w' A l := RdV.chg h hc hs
theorem RdI.drewN (h : RdI X w A l) (n : Nat) : RdI X (w.drewN n) A l := RdV.drewN h n
theorem RdI.later (h : RdI X w A l) (hc : Below w.heap.size w w') : RdI X w' A l := RdV.later h hc
theorem RdI.mono {Y : Nat → Prop} (h : RdI X w A l) (hx : ∀ k, k < w.heap.size → X k → Y k) : RdI Y w A l := RdV.mono h hx
theorem RdI.nil (X : Nat → Prop) (w : World) (A : Option Addr) : RdI X w A [] := RdV.nil _ _ _
theorem map_i64_get {j : Nat} (hj : j < l.length) : (l.map (Value.int .i64))[j]? = some (.int .i64 (l.getD j 0)) := by
  simp [List.getElem?_eq_getElem hj, List.getD_eq_getElem?_getD]
theorem RdI.spot (h : RdI X w A l) (hp : 0 < l.length) : ∃ b o, A = some ⟨b, o, none⟩ ∧ ∀ j, j < l.length → w.cell? ⟨b, o + j, none⟩ = some (.int .i64 (l.getD j 0)) := by
  obtain ⟨b, o, hA, -, -, hc⟩ := RdV.spot h (by simpa using hp)
  exact ⟨b, o, hA, fun j hj => hc j _ (map_i64_get hj)⟩
end
theorem OwnI.nil (w : World) (base : Nat) : OwnI w base (.slice none 0 0) [] := World.ownsRow_nil w base _ _
theorem OwnI.rdI {w : World} {base : Nat} {v : Value} {l : List Int} (h : OwnI w base v l) : ∃ A c, v = .slice A l.length c ∧ l.length ≤ c ∧ c ≤ maxLen ∧ RdI (fun k => v.ownBlock = some k) w A l := RdV.of_own h
theorem OwnI.chg {S : Nat → Prop} {w w' : World} {base : Nat} {v : Value} {l : List Int} (h : OwnI w base v l) (hc : Chg S w w') (hg : ∀ g, v.ownBlock = some g → ¬ S g) : OwnI w' base v l := owns_chg h hc hg
theorem OwnI.later {w w' : World} {base : Nat} {v : Value} {l : List Int} (h : OwnI w base v l) (hb : Below w.heap.size w w') : OwnI w' base v l := h.chg (S := fun _ => False) (Chg.of_below hb) fun _ _ => id
theorem OwnI.base {w : World} {base base' : Nat} {v : Value} {l : List Int} (h : OwnI w base v l) (hb : base' ≤ base) : OwnI w base' v l := owns_base h hb

/-- The block that was just built for some ints. -/
theorem rdI_lit (w : World) (l : List Int) : RdI (fun k => k = w.heap.size) (w.alloc (.cells (l.map (Value.int .i64)).toArray 3)) (some ⟨w.heap.size, 0, none⟩) l := by
  refine fun j u hu => ⟨_, rfl, by simp, ?_⟩
  have h := (Own.new w 3 (l.map (Value.int .i64))).cell j
  rw [addPlain, Nat.zero_add, h, hu]
/-- append(s, x...), of ints. -/
theorem wpList_appI {X : Nat → Prop} {ops : Array Oper} {rest : List Oper} {o : Oper} {a : Act} {Q : Exit → Act → World → Prop} {w : World} (hgd : o.guard = none) (s x : Operand)
    (ho : o.op = .call { callee := .builtin .append, args := #[s, x], argTypes := #[47, 47] }) (base : Nat) (v : Value) (l : List Int) (hs : a.eval s = v) (hown : OwnI w base v l)
    (A : Option Addr) (m c : Nat) (news : List Int) (hx : a.eval x = .slice A m c) (hm : m = news.length) (hr : RdI X w A news) (hlen : l.length + m ≤ 1000000000) (hbase : base ≤ w.heap.size)
    (h : ∀ v' w', OwnI w' base v' (l ++ news) → Grew v w v' w' → wpList Try.prog ops Q rest (a.put o.dst v') w') : wpList Try.prog ops Q (o :: rest) a w := by
  subst hm
  refine wpList_appG under_ints int_info rfl (by omega) hgd s x ho base v l.length _ hs hown A news.length c (news.map (Value.int .i64)) hx (by simp) hr (fun u hu => by obtain ⟨z, _, rfl⟩ := List.mem_map.1 hu; rfl) (by simp only [maxLen]; omega) (by omega) hbase fun v' w' h1 h2 h3 => h v' w' ?_ (Grew.of_grown h2 h3)
  unfold OwnI
  simpa using h1
/-- append(s, z): one int more, out of the block that was just built for it. -/
theorem wpList_appI1 {ops : Array Oper} {rest : List Oper} {o : Oper} {a : Act} {Q : Exit → Act → World → Prop} {w : World} (hgd : o.guard = none) (s x : Operand)
    (ho : o.op = .call { callee := .builtin .append, args := #[s, x], argTypes := #[47, 47] }) (base : Nat) (v : Value) (l : List Int) (hs : a.eval s = v) (hown : OwnI w base v l)
    (z : Int) (hx : a.eval x = .slice (some ⟨w.heap.size, 0, none⟩) 1 1) (hlen : l.length + 1 ≤ 1000000000) (hbase : base ≤ w.heap.size)
    (h : ∀ v' w', OwnI w' base v' (l ++ [z]) → Grew v w v' w' → wpList Try.prog ops Q rest (a.put o.dst v') w') : wpList Try.prog ops Q (o :: rest) a (w.alloc (.cells #[.int .i64 z] 3)) := by
  have hb : Below w.heap.size w (w.alloc (.cells #[.int .i64 z] 3)) := (Below.refl _ _).alloc (Nat.le_refl _) _
  refine wpList_appI hgd s x ho base v l hs (hown.later hb) _ 1 1 [z] hx rfl (rdI_lit w [z]) hlen (by simp; omega) fun v' w' h1 h2 => h v' w' h1 (h2.before hb fun k hk => owns_lt hown hk)
end Go.Proofs.Ytdbbcbffmbcjiaa

/- op.Width, op.Kind and what they call: what an instruction is. -/
namespace Go.Proofs.Ytdbbcbffmbcjiaa
open Go.RowKit
set_option maxRecDepth 100000
set_option linter.unusedVariables false

/-- How many bytes an instruction moves. -/
def wd (x : Int) : Int :=
  if x = 44 ∨ x = 45 ∨ x = 48 ∨ x = 49 ∨ x = 58 ∨ x = 60 then 1
  else if x = 46 ∨ x = 47 ∨ x = 50 ∨ x = 51 ∨ x = 59 ∨ x = 61 then 2
  else if x = 40 ∨ x = 52 ∨ x = 53 ∨ x = 54 ∨ x = 62 then 4
  else if x = 41 ∨ x = 55 then 8 else 0
/-- Of floats and vectors. -/
def fl (x : Int) : Prop := (42 ≤ x ∧ x ≤ 43) ∨ (56 ≤ x ∧ x ≤ 57) ∨ (67 ≤ x ∧ x ≤ 68) ∨ (91 ≤ x ∧ x ≤ 102) ∨ (139 ≤ x ∧ x ≤ 166) ∨ (168 ≤ x ∧ x ≤ 171) ∨ (174 ≤ x ∧ x ≤ 191) ∨ (64512 ≤ x ∧ x ≤ 64519) ∨ x = 253 ∨ (64768 ≤ x ∧ x ≤ 65023)
/-- Of numbers from the stack alone. -/
def nu (x : Int) : Prop := (69 ≤ x ∧ x ≤ 90) ∨ (103 ≤ x ∧ x ≤ 138) ∨ x = 167 ∨ (172 ≤ x ∧ x ≤ 173) ∨ (192 ≤ x ∧ x ≤ 196)
instance (x : Int) : Decidable (fl x) := by unfold fl; infer_instance
instance (x : Int) : Decidable (nu x) := by unfold nu; infer_instance
/-- What stands behind an instruction of one byte that neither reckons nor loads nor stores. -/
def kb (x : Int) : Int × Int :=
  if x = 0 ∨ x = 1 ∨ x = 5 ∨ x = 11 ∨ x = 15 ∨ x = 26 ∨ x = 27 ∨ x = 209 then (0, 0)
  else if x = 12 ∨ x = 13 ∨ x = 16 ∨ x = 32 ∨ x = 33 ∨ x = 34 ∨ x = 35 ∨ x = 36 ∨ x = 37 ∨ x = 38 ∨ x = 63 ∨ x = 64 ∨ x = 210 then (1, 0)
  else if x = 17 then (2, 0)
  else if x = 65 then (3, 0)
  else if x = 66 then (4, 0)
  else if x = 2 ∨ x = 3 ∨ x = 4 then (6, 0)
  else if x = 14 then (7, 0)
  else if x = 28 ∨ x = 208 then (8, 0)
  else (0, 2)
/-- What stands behind an instruction behind the byte 0xfc. -/
def kf (x : Int) : Int × Int :=
  if x = 64521 ∨ x = 64523 ∨ x = 64525 ∨ x = 64527 ∨ x = 64528 ∨ x = 64529 then (1, 0)
  else if x = 64520 ∨ x = 64522 ∨ x = 64524 ∨ x = 64526 then (2, 0)
  else (0, 2)
/-- What stands behind an instruction, or why it is none. -/
def kd (x : Int) : Int × Int := if fl x then (0, 5) else if nu x then (0, 0) else if 0 < wd x then (5, 0) else if 64512 ≤ x then kf x else kb x
def pr (p : Int × Int) : Value := .tuple #[.int .i64 p.1, .int .i64 p.2]

theorem within_any (x a b : Int) (w : World) : Calls Try.prog 82 #[.int .i64 x, .int .i64 a, .int .i64 b] w fun e w' => e = .returned (.bool (decide (a ≤ x ∧ x ≤ b))) ∧ w = w' := by
  go_enter Try.func82, Try.ntmps82
  go_wp2
  all_goals (go_ret; refine ⟨?_, rfl⟩; congr 2; simp_all; try omega)

set_option maxHeartbeats 1000000 in
theorem width_any (x : Int) (w : World) : Calls Try.prog 44 #[.int .i64 x] w fun e w' => e = .returned (.int .i64 (wd x)) ∧ w = w' := by
  go_enter Try.func44, Try.ntmps44
  go_wp2
  all_goals (go_ret; refine ⟨?_, rfl⟩; simp_all [wd])
set_option maxHeartbeats 1000000 in
theorem kindOfByte_any (x : Int) (w : World) : Calls Try.prog 46 #[.int .i64 x] w fun e w' => e = .returned (pr (kb x)) ∧ w = w' := by
  go_enter Try.func46, Try.ntmps46
  go_wp2
  all_goals (go_ret2; refine ⟨?_, rfl⟩; simp_all [kb, pr])
set_option maxHeartbeats 1000000 in
theorem kindBehindFC_any (x : Int) (w : World) : Calls Try.prog 45 #[.int .i64 x] w fun e w' => e = .returned (pr (kf x)) ∧ w = w' := by
  go_enter Try.func45, Try.ntmps45
  go_wp2
  all_goals (go_ret2; refine ⟨?_, rfl⟩; simp_all [kf, pr])
set_option maxHeartbeats 1000000 in
theorem ofNumbers_any (x : Int) (w : World) : Calls Try.prog 43 #[.int .i64 x] w fun e w' => e = .returned (.bool (decide (nu x))) ∧ w = w' := by
  go_enter Try.func43, Try.ntmps43
  go_wp2_with (go_at_call 82; refine (within_any _ _ _ _).mono ?_; rintro e w' ⟨rfl, rfl⟩)
  all_goals (go_ret; refine ⟨?_, rfl⟩; congr 2; simp_all [nu]; try omega)
set_option maxHeartbeats 1000000 in
theorem ofFloats_any (x : Int) (w : World) : Calls Try.prog 42 #[.int .i64 x] w fun e w' => e = .returned (.bool (decide (fl x))) ∧ w = w' := by
  go_enter Try.func42, Try.ntmps42
  go_wp2_with (go_at_call 82; refine (within_any _ _ _ _).mono ?_; rintro e w' ⟨rfl, rfl⟩)
  all_goals (go_ret; refine ⟨?_, rfl⟩; congr 2; simp_all [fl]; try omega)
set_option maxHeartbeats 1000000 in
theorem kind_any (x : Int) (w : World) : Calls Try.prog 27 #[.int .i64 x] w fun e w' => e = .returned (pr (kd x)) ∧ w = w' := by
  go_enter Try.func27, Try.ntmps27
  go_wp2_with (first | (go_at_call 42; refine (ofFloats_any _ _).mono ?_; rintro e w' ⟨rfl, rfl⟩) | (go_at_call 43; refine (ofNumbers_any _ _).mono ?_; rintro e w' ⟨rfl, rfl⟩) | (go_at_call 44; refine (width_any _ _).mono ?_; rintro e w' ⟨rfl, rfl⟩) | (go_at_call 45; refine (kindBehindFC_any _ _).mono ?_; rintro e w' ⟨rfl, rfl⟩; unfold pr) | (go_at_call 46; refine (kindOfByte_any _ _).mono ?_; rintro e w' ⟨rfl, rfl⟩; unfold pr))
  all_goals (go_ret2; refine ⟨?_, rfl⟩; simp_all [kd, pr])
  all_goals (have hw : (0 < wd x) = False := by simp; omega)
  all_goals simp only [hw, if_false, and_self]
  all_goals (have hx : (64512 ≤ x) = False := by simp; omega)
  all_goals simp only [hx, if_false, and_self]
end Go.Proofs.Ytdbbcbffmbcjiaa

/- Instructions as bytes: what reading them comes to, as plain functions. No function of the program. -/
namespace Go.Proofs.Ytdbbcbffmbcjiaa
open Go.RowKit
set_option maxRecDepth 100000
set_option linter.unusedVariables false

/-- A signed number. -/
def pS (bits : Int) : PR Int := fun l => if (rdS bits l).2.2 = 0 then .ok ((rdS bits l).1, l.drop (rdS bits l).2.1.toNat) else .error (rdS bits l).2.2
theorem pS_ok {bits : Int} {l : List Int} {u m : Int} (h : rdS bits l = (u, m, 0)) : pS bits l = .ok (u, l.drop m.toNat) := by simp [pS, h]
theorem pS_no {bits : Int} {l : List Int} {u m e : Int} (h : rdS bits l = (u, m, e)) (he : e ≠ 0) : pS bits l = .error e := by simp [pS, h, he]
theorem sx_range (u n : Int) : -9223372036854775808 ≤ sx u n ∧ sx u n < 9223372036854775808 := by
  unfold sx
  generalize IntKind.u64.wrap _ = y
  have h1 : -9223372036854775808 ≤ wrap64 y ∧ wrap64 y < 9223372036854775808 := by
    constructor <;> · unfold wrap64; omega
  generalize wrap64 y = z at *
  generalize hk : (max 0 (64 - n * 7)).toNat = k
  have hp : (1 : Int) ≤ 2 ^ k := by have : (0 : Int) < 2 ^ k := Int.pow_pos (by omega); omega
  generalize (2 : Int) ^ k = p at *
  constructor
  · rw [Int.le_ediv_iff_mul_le (by omega)]
    omega
  · rw [Int.ediv_lt_iff_lt_mul (by omega)]
    omega
theorem rdS_cases (bits : Int) (h0 : 1 ≤ bits) (hb : bits ≤ 64) (l : List Int) : rdS bits l = (0, 0, 3) ∨ rdS bits l = (0, 0, 2) ∨
    ∃ (u : Int) (m : Nat), rdS bits l = (u, (m : Int), 0) ∧ -9223372036854775808 ≤ u ∧ u < 9223372036854775808 ∧ 1 ≤ m ∧ m ≤ 10 ∧ m ≤ l.length := by
  unfold rdS
  rcases dec_cases bits fitS (by omega) l 0 0 (by omega) with h | h | ⟨u, m, h, h1, h2, h3, h4, h5⟩
  · left; simp [h]
  · right; left; simp [h]
  · right; right
    have := sx_range u m
    exact ⟨sx u m, m, by simp [h], by omega, by omega, h3, by omega, by omega⟩

structure Ins where
  op : Int
  a : Int
  b : Int
  n : Int
  l : List Int
  t : Int
deriving DecidableEq

/-- How many of what an instruction names are numbers. -/
def nums (op : Int) : Int := if op = 63 ∨ op = 64 ∨ op = 64523 ∨ op = 64522 then 0 else if op = 64520 then 1 else 2
def pZero : PR Int := seq pByte fun b l => if b = 0 then .ok (0, l) else .error 2
def pNm (op place : Int) : PR Int := if place < nums op then pU 32 else pZero
def pOp : PR Int := seq pByte fun b => if b = 252 then seq (pU 32) fun n l => if 255 < n then .error 2 else .ok (64512 + n, l) else fun l => .ok (b, l)
def pAl : PR Int := seq (pU 32) fun n l => if 31 < n then .error 2 else .ok (n, l)
/-- A block's type. -/
def pBl : PR Int := fun l => bd (pS 33 l) fun r => if 0 ≤ r.1 then .ok r else if 1 < l.length - r.2.length then .error 2 else if r.1 = -64 then .ok r else if valE (r.1 % 128) = 0 then .ok r else .error (valE (r.1 % 128))
/-- n labels more. -/
def pLb : Nat → List Int → PR (List Int)
  | 0, acc => fun l => .ok (acc, l)
  | n + 1, acc => seq (pU 32) fun x => pLb n (acc ++ [x])
def pLabels : PR (List Int) := seq (pCount 600) fun n => pLb n.toNat []
/-- The type behind select or ref.null. -/
def pTy (op : Int) : PR Int :=
  if op = 28 then seq (pU 32) fun n l => if n = 1 then pVal l else .error 2
  else seq pVal fun t l => if t = 112 ∨ t = 111 then .ok (t, l) else .error 2
def pBh (imm op : Int) : PR Ins :=
  if imm = 1 then seq (pNm op 0) fun a l => .ok (⟨op, a, 0, 0, [], 0⟩, l)
  else if imm = 2 then seq (pNm op 0) fun a => seq (pNm op 1) fun b l => .ok (⟨op, a, b, 0, [], 0⟩, l)
  else if imm = 3 then seq (pS 32) fun x l => .ok (⟨op, 0, 0, x % 4294967296, [], 0⟩, l)
  else if imm = 4 then seq (pS 64) fun x l => .ok (⟨op, 0, 0, x % 18446744073709551616, [], 0⟩, l)
  else if imm = 5 then seq pAl fun a => seq (pU 32) fun b l => .ok (⟨op, a, b, 0, [], 0⟩, l)
  else if imm = 6 then seq pBl fun t l => .ok (⟨op, 0, 0, 0, [], t⟩, l)
  else if imm = 7 then seq pLabels fun ls => seq (pU 32) fun a l => .ok (⟨op, a, 0, 0, ls, 0⟩, l)
  else if imm = 8 then seq (pTy op) fun a l => .ok (⟨op, a, 0, 0, [], 0⟩, l)
  else fun l => .ok (⟨op, 0, 0, 0, [], 0⟩, l)
/-- An instruction. -/
def pIn : PR Ins := seq pOp fun op => if (kd op).2 = 0 then pBh (kd op).1 op else fun _ => .error (kd op).2
/-- What is open behind an instruction, and whether it is the body's end; or why it may not stand there. -/
def nestP (op : Int) (o : List Int) : Except Int (List Int × Bool) :=
  if op = 2 ∨ op = 3 ∨ op = 4 then (if 32 < o.length + 1 then .error 4 else .ok (o ++ [op], false))
  else if op = 5 then (if o.getLast? = some 4 then .ok (o.dropLast ++ [5], false) else .error 2)
  else if op = 11 then (if o = [] then .ok ([], true) else .ok (o.dropLast, false))
  else .ok (o, false)
/-- An instruction, with what is open. -/
def pSt (o : List Int) : PR (Ins × List Int × Bool) := seq pIn fun x l => bd (nestP x.op o) fun r => .ok ((x, r.1, r.2), l)
/-- A body: so many instructions at the most, with what stands ahead. -/
def pBody : Nat → List Int → List Ins → PR (List Ins)
  | 0, _, _ => fun _ => .error 4
  | n + 1, o, acc => seq (pSt o) fun r => if r.2.2 then fun l => .ok (acc ++ [r.1], l) else pBody n r.2.1 (acc ++ [r.1])
def pCode : PR (List Ins) := pBody 600 [] []

/-- A block's type, the document's way. -/
def pBlR : PR Int := fun l => match l with
  | [] => .error 3
  | b :: r => if b = 64 ∨ valE b = 0 then .ok (b - 128, r) else if valE b = 5 then .error 5 else bd (pS 33 l) fun q => if q.1 < 0 then .error 2 else .ok q
theorem rdS33_low (b : Int) (r : List Int) (h0 : 0 ≤ b) (h1 : b < 128) : rdS 33 (b :: r) = (if b < 64 then b else b - 128, 1, 0) := by
  unfold rdS
  have hd : dec 33 fitS (b :: r) 0 0 = (b, 1, 0) := by
    simp only [dec]
    rw [if_neg (by rintro ⟨h, _⟩; omega), if_pos h1]
    simp; omega
  rw [hd]
  have : sx b 1 = if b < 64 then b else b - 128 := by
    unfold sx
    rw [show max 0 (64 - (1 : Int) * 7) = 57 from by omega, show (57 : Int).toNat = 57 from rfl, IntKind.wrap_u64]
    unfold wrap64
    split <;> omega
  simp [this]
theorem dec_more (bits : Int) (fit : Int → Int → Bool) (l : List Int) : ∀ (k : Nat) (x u m : Int), dec bits fit l k x = (u, m, 0) → (k : Int) + 1 ≤ m := by
  induction l with
  | nil => intro k x u m h; simp [dec] at h
  | cons c l ih =>
    intro k x u m h
    simp only [dec] at h
    split at h
    · simp at h
    · split at h
      · simp only [Prod.mk.injEq] at h; omega
      · have := ih _ _ _ _ h; omega
theorem rdS33_high (b : Int) (r : List Int) (h0 : 128 ≤ b) (h1 : b ≤ 255) {u m : Int} (h : rdS 33 (b :: r) = (u, m, 0)) : 2 ≤ m := by
  unfold rdS at h
  have hd : ∃ y, dec 33 fitS (b :: r) 0 0 = dec 33 fitS r 1 y := by
    simp only [dec]
    rw [if_neg (by rintro ⟨h, _⟩; omega), if_neg (by omega)]
    exact ⟨_, rfl⟩
  obtain ⟨y, hy⟩ := hd
  rw [hy] at h
  split at h
  · rename_i hz
    have := dec_more 33 fitS r 1 y _ _ (by rw [← hz])
    have h2 : (dec 33 fitS r 1 y).2.1 = m := congrArg (fun q : Int × Int × Int => q.2.1) h
    rw [← h2]
    simpa using this
  · simp only [Prod.mk.injEq] at h; exact absurd h.2.2 ‹_›
theorem pBl_doc (l : List Int) (hl : ∀ z ∈ l, 0 ≤ z ∧ z ≤ 255) : pBlR l = pBl l := by
  cases l with
  | nil => simp [pBlR, pBl, pS, rdS, dec]
  | cons b r =>
    obtain ⟨h0, h1⟩ := hl b (by simp)
    by_cases hb : b < 128
    · have hd := pS_ok (rdS33_low b r h0 hb)
      unfold pBlR pBl
      rw [hd]
      simp only [bd_ok, show ((1 : Int).toNat) = 1 from rfl, List.drop_succ_cons, List.drop_zero, List.length_cons]
      by_cases h64 : b < 64
      · have hv : valE b = 2 := by unfold valE; rw [if_neg (by omega), if_neg (by omega)]
        simp only [if_pos h64]
        rw [if_neg (by omega), if_neg (by omega), if_neg (by omega), if_pos h0]
      · simp only [if_neg h64]
        rw [if_neg (show ¬ 0 ≤ b - 128 by omega), if_neg (show ¬ 1 < r.length + 1 - r.length by omega), show (b - 128) % 128 = b from by omega]
        by_cases h40 : b = 64
        · subst h40; simp
        · rw [if_neg (show ¬ b - 128 = -64 by omega)]
          rcases valE_cases b with hv | hv | hv <;> rw [hv] <;> simp [h40]
          omega
    · have hv : valE b = 2 := by unfold valE; rw [if_neg (by omega), if_neg (by omega)]
      unfold pBlR pBl
      simp only [hv]
      rw [if_neg (by omega), if_neg (by omega)]
      rcases rdS_cases 33 (by omega) (by omega) (b :: r) with h | h | ⟨u, m, h, h2, h3, h4, h5, h6⟩
      · rw [pS_no h (by omega)]; rfl
      · rw [pS_no h (by omega)]; rfl
      · rw [pS_ok h]
        have hm := rdS33_high b r (by omega) h1 h
        simp only [bd_ok, Int.toNat_natCast]
        by_cases hu : 0 ≤ u
        · rw [if_neg (by omega), if_pos hu]
        · rw [if_pos (by omega), if_neg hu, if_pos]
          rw [List.length_drop]
          omega
end Go.Proofs.Ytdbbcbffmbcjiaa

/- Package reader: signed numbers, and Failed. (Written by gen_ReaderS.py.) -/
namespace Go.Proofs.Ytdbbcbffmbcjiaa
open Go.RowKit
set_option maxRecDepth 100000
set_option linter.unusedVariables false

/-- A signed number that was read. -/
def SgPost (K : IntKind) (lo hi : Int) (R : Int → Int → Prop) (p : PR Int) (g : Nat) (t : TypeId) (tl : RTl) (s : St) (w : World) (e : Ending) (w' : World) : Prop :=
  ∃ x, e = .returned (.int K x) ∧ lo ≤ x ∧ x ≤ hi ∧ RdrAt w' g t tl (nx p s) ∧ (∀ a l', bd s p = .ok (a, l') → R x a) ∧ Chg (fun k => k = g) w w'
theorem wrap32_rng (u : Int) : -2147483648 ≤ wrap32 u ∧ wrap32 u ≤ 2147483647 ∧ wrap32 u % 4294967296 = u % 4294967296 := by
  unfold wrap32
  refine ⟨?_, ?_, ?_⟩ <;> omega

def failedS (s : St) : Bool := match s with
  | .error _ => true
  | .ok _ => false
theorem rfailed_any (g : Nat) (t : TypeId) (tl : RTl) (s : St) (w : World) (h : RdrAt w g t tl s) :
    Calls Try.prog 18 #[.pointer (some ⟨g, 0, none⟩)] w fun e w' => e = .returned (.bool (failedS s)) ∧ w = w' := by
  cases s with
  | ok l =>
    obtain ⟨A, c, r, h1, -⟩ := h
    obtain ⟨hc0, hc1, hc2, hf0, hf1, hf2⟩ := own_cells3 h1
    clear h1
    generalize l.length = q at *
    go_enter Try.func18, Try.ntmps18
    go_wp2
    go_ret
    exact ⟨rfl, rfl⟩
  | error e =>
    obtain ⟨h1, he, -⟩ := h
    obtain ⟨hc0, hc1, hc2, hf0, hf1, hf2⟩ := own_cells3 h1
    clear h1
    have hne : (e != 0) = true := by simp; omega
    go_enter Try.func18, Try.ntmps18
    go_wp2
    go_ret
    exact ⟨rfl, rfl⟩

set_option maxHeartbeats 1000000 in
theorem rnumS32_any (g : Nat) (t : TypeId) (tl : RTl) (s : St) (w : World) (h : RdrAt w g t tl s) :
    Calls Try.prog 92 #[.pointer (some ⟨g, 0, none⟩), .func (.func 93) #[] #[]] w (SgPost .i32 (-2147483648) 2147483647 (fun x a => x % 4294967296 = a % 4294967296) (pS 32) g t tl s w) := by
  rcases s with e | l
  · have HF := Lib.hid (rfail_any g t tl _ 3 w h (by omega) (by omega))
    obtain ⟨h1, he, he2⟩ := h
    obtain ⟨hc0, hc1, hc2, hf0, hf1, hf2⟩ := own_cells3 h1
    have HU := Lib.hid (S32_any none [] 0 0 w (Rd.nil _ _ _) rfl (by decide))
    clear h1
    go_enter Try.func92, Try.ntmps92
    go_wp2_with fail
    refine HU.out.mono ?_
    rintro e w' ⟨rfl, rfl⟩
    simp only [three, rdS, dec, on1, show ((3 : Int) = 0) = False from by simp, if_false]
    go_wp2_with fail
    refine HF.out.mono ?_
    rintro e w' ⟨⟨u, rfl⟩, h2, hc⟩
    have HC := Lib.hid (And.intro h2 hc)
    clear h2 hc
    go_wp2
    go_ret
    exact ⟨wrap32 0, rfl, (wrap32_rng 0).1, (wrap32_rng 0).2.1, HC.out.1, (fun a l' h => by cases h), HC.out.2⟩
  · have HF := Lib.hid (fun x hx hx2 => rfail_any g t tl _ x w h hx hx2)
    have HH := Lib.hid h
    obtain ⟨A, c, r, h1, hr, hlc, hcm, hlm, -⟩ := h
    obtain ⟨hc0, hc1, hc2, hf0, hf1, hf2⟩ := own_cells3 h1
    have HU := Lib.hid (S32_any A l l.length c w hr.rd rfl (by unfold maxLen; omega))
    have bad : ∀ x, rdS 32 l = (0, 0, x) → 0 < x → x ≤ 100 → (x == 0) = false → Calls Try.prog 92 #[.pointer (some ⟨g, 0, none⟩), .func (.func 93) #[] #[]] w (SgPost .i32 (-2147483648) 2147483647 (fun x a => x % 4294967296 = a % 4294967296) (pS 32) g t tl (.ok l) w) := by
      intro x hd hx hx2 hx3
      have HD := Lib.hid hd
      have HP := Lib.hid (pS_no hd (by omega))
      clear h1 hr hd hlc hcm hlm
      generalize l.length = q at *
      go_enter Try.func92, Try.ntmps92
      go_wp2_with fail
      refine HU.out.mono ?_
      rw [HD.out]
      simp only [three, on1]
      rintro e w' ⟨rfl, rfl⟩
      go_wp2_with fail
      refine (HF.out x hx hx2).mono ?_
      rintro e w' ⟨⟨u, rfl⟩, h2, hc⟩
      have HC := Lib.hid (And.intro h2 hc)
      clear h2 hc
      go_wp2
      go_ret
      refine ⟨wrap32 0, rfl, (wrap32_rng 0).1, (wrap32_rng 0).2.1, ?_, (fun a l' h => ?_), HC.out.2⟩
      · rw [nx_ok, HP.out]; exact HC.out.1
      · rw [bd_ok, HP.out] at h; cases h
    rcases rdS_cases 32 (by omega) (by omega) l with hd | hd | ⟨u, m, hd, hu0, hu1, hm1, hm2, hm3⟩
    · exact bad 3 hd (by omega) (by omega) rfl
    · exact bad 2 hd (by omega) (by omega) rfl
    · have HS := Lib.hid (rskip_any g t tl l m w HH.out hm3)
      have HD := Lib.hid hd
      have HP := Lib.hid (pS_ok hd)
      clear h1 hr hd hlc hcm bad hm3
      generalize l.length = q at *
      go_enter Try.func92, Try.ntmps92
      go_wp2_with fail
      refine HU.out.mono ?_
      rw [HD.out]
      simp only [three, on1]
      rintro e w' ⟨rfl, rfl⟩
      go_wp2_with fail
      refine HS.out.mono ?_
      rintro e w' ⟨⟨u2, rfl⟩, h2, hc⟩
      have HC := Lib.hid (And.intro h2 hc)
      clear h2 hc
      go_wp2
      go_ret
      refine ⟨wrap32 u, rfl, (wrap32_rng u).1, (wrap32_rng u).2.1, ?_, (fun a l' h => ?_), HC.out.2⟩
      · rw [nx_ok, HP.out]; simpa using HC.out.1
      · rw [bd_ok, HP.out] at h; injection h with h; injection h with h _; rw [← h]; exact (wrap32_rng u).2.2
theorem rS32_any (g : Nat) (t : TypeId) (tl : RTl) (s : St) (w : World) (h : RdrAt w g t tl s) :
    Calls Try.prog 58 #[.pointer (some ⟨g, 0, none⟩)] w (SgPost .i32 (-2147483648) 2147483647 (fun x a => x % 4294967296 = a % 4294967296) (pS 32) g t tl s w) := by
  have HN := Lib.hid (rnumS32_any g t tl s w h)
  clear h
  go_enter Try.func58, Try.ntmps58
  go_wp2_with fail
  refine HN.out.mono ?_
  rintro e w' ⟨x, rfl, h0, h1, h2⟩
  have H2 := Lib.hid h2
  clear h2
  go_wp2
  go_ret
  exact ⟨x, rfl, h0, h1, H2.out⟩

set_option maxHeartbeats 1000000 in
theorem rnumS33_any (g : Nat) (t : TypeId) (tl : RTl) (s : St) (w : World) (h : RdrAt w g t tl s) :
    Calls Try.prog 94 #[.pointer (some ⟨g, 0, none⟩), .func (.func 113) #[] #[]] w (SgPost .i64 (-9223372036854775808) 9223372036854775807 (fun x a => x = a) (pS 33) g t tl s w) := by
  rcases s with e | l
  · have HF := Lib.hid (rfail_any g t tl _ 3 w h (by omega) (by omega))
    obtain ⟨h1, he, he2⟩ := h
    obtain ⟨hc0, hc1, hc2, hf0, hf1, hf2⟩ := own_cells3 h1
    have HU := Lib.hid (S33_any none [] 0 0 w (Rd.nil _ _ _) rfl (by decide))
    clear h1
    go_enter Try.func94, Try.ntmps94
    go_wp2_with fail
    refine HU.out.mono ?_
    rintro e w' ⟨rfl, rfl⟩
    simp only [three, rdS, dec, show ((3 : Int) = 0) = False from by simp, if_false]
    go_wp2_with fail
    refine HF.out.mono ?_
    rintro e w' ⟨⟨u, rfl⟩, h2, hc⟩
    have HC := Lib.hid (And.intro h2 hc)
    clear h2 hc
    go_wp2
    go_ret
    exact ⟨0, rfl, by omega, by omega, HC.out.1, (fun a l' h => by cases h), HC.out.2⟩
  · have HF := Lib.hid (fun x hx hx2 => rfail_any g t tl _ x w h hx hx2)
    have HH := Lib.hid h
    obtain ⟨A, c, r, h1, hr, hlc, hcm, hlm, -⟩ := h
    obtain ⟨hc0, hc1, hc2, hf0, hf1, hf2⟩ := own_cells3 h1
    have HU := Lib.hid (S33_any A l l.length c w hr.rd rfl (by unfold maxLen; omega))
    have bad : ∀ x, rdS 33 l = (0, 0, x) → 0 < x → x ≤ 100 → (x == 0) = false → Calls Try.prog 94 #[.pointer (some ⟨g, 0, none⟩), .func (.func 113) #[] #[]] w (SgPost .i64 (-9223372036854775808) 9223372036854775807 (fun x a => x = a) (pS 33) g t tl (.ok l) w) := by
      intro x hd hx hx2 hx3
      have HD := Lib.hid hd
      have HP := Lib.hid (pS_no hd (by omega))
      clear h1 hr hd hlc hcm hlm
      generalize l.length = q at *
      go_enter Try.func94, Try.ntmps94
      go_wp2_with fail
      refine HU.out.mono ?_
      rw [HD.out]
      simp only [three]
      rintro e w' ⟨rfl, rfl⟩
      go_wp2_with fail
      refine (HF.out x hx hx2).mono ?_
      rintro e w' ⟨⟨u, rfl⟩, h2, hc⟩
      have HC := Lib.hid (And.intro h2 hc)
      clear h2 hc
      go_wp2
      go_ret
      refine ⟨0, rfl, by omega, by omega, ?_, (fun a l' h => ?_), HC.out.2⟩
      · rw [nx_ok, HP.out]; exact HC.out.1
      · rw [bd_ok, HP.out] at h; cases h
    rcases rdS_cases 33 (by omega) (by omega) l with hd | hd | ⟨u, m, hd, hu0, hu1, hm1, hm2, hm3⟩
    · exact bad 3 hd (by omega) (by omega) rfl
    · exact bad 2 hd (by omega) (by omega) rfl
    · have HS := Lib.hid (rskip_any g t tl l m w HH.out hm3)
      have HD := Lib.hid hd
      have HP := Lib.hid (pS_ok hd)
      clear h1 hr hd hlc hcm bad hm3
      generalize l.length = q at *
      go_enter Try.func94, Try.ntmps94
      go_wp2_with fail
      refine HU.out.mono ?_
      rw [HD.out]
      simp only [three]
      rintro e w' ⟨rfl, rfl⟩
      go_wp2_with fail
      refine HS.out.mono ?_
      rintro e w' ⟨⟨u2, rfl⟩, h2, hc⟩
      have HC := Lib.hid (And.intro h2 hc)
      clear h2 hc
      go_wp2
      go_ret
      refine ⟨u, rfl, by omega, by omega, ?_, (fun a l' h => ?_), HC.out.2⟩
      · rw [nx_ok, HP.out]; simpa using HC.out.1
      · rw [bd_ok, HP.out] at h; injection h with h; injection h
theorem rS33_any (g : Nat) (t : TypeId) (tl : RTl) (s : St) (w : World) (h : RdrAt w g t tl s) :
    Calls Try.prog 96 #[.pointer (some ⟨g, 0, none⟩)] w (SgPost .i64 (-9223372036854775808) 9223372036854775807 (fun x a => x = a) (pS 33) g t tl s w) := by
  have HN := Lib.hid (rnumS33_any g t tl s w h)
  clear h
  go_enter Try.func96, Try.ntmps96
  go_wp2_with fail
  refine HN.out.mono ?_
  rintro e w' ⟨x, rfl, h0, h1, h2⟩
  have H2 := Lib.hid h2
  clear h2
  go_wp2
  go_ret
  exact ⟨x, rfl, h0, h1, H2.out⟩

set_option maxHeartbeats 1000000 in
theorem rnumS64_any (g : Nat) (t : TypeId) (tl : RTl) (s : St) (w : World) (h : RdrAt w g t tl s) :
    Calls Try.prog 94 #[.pointer (some ⟨g, 0, none⟩), .func (.func 95) #[] #[]] w (SgPost .i64 (-9223372036854775808) 9223372036854775807 (fun x a => x = a) (pS 64) g t tl s w) := by
  rcases s with e | l
  · have HF := Lib.hid (rfail_any g t tl _ 3 w h (by omega) (by omega))
    obtain ⟨h1, he, he2⟩ := h
    obtain ⟨hc0, hc1, hc2, hf0, hf1, hf2⟩ := own_cells3 h1
    have HU := Lib.hid (S64_any none [] 0 0 w (Rd.nil _ _ _) rfl (by decide))
    clear h1
    go_enter Try.func94, Try.ntmps94
    go_wp2_with fail
    refine HU.out.mono ?_
    rintro e w' ⟨rfl, rfl⟩
    simp only [three, rdS, dec, show ((3 : Int) = 0) = False from by simp, if_false]
    go_wp2_with fail
    refine HF.out.mono ?_
    rintro e w' ⟨⟨u, rfl⟩, h2, hc⟩
    have HC := Lib.hid (And.intro h2 hc)
    clear h2 hc
    go_wp2
    go_ret
    exact ⟨0, rfl, by omega, by omega, HC.out.1, (fun a l' h => by cases h), HC.out.2⟩
  · have HF := Lib.hid (fun x hx hx2 => rfail_any g t tl _ x w h hx hx2)
    have HH := Lib.hid h
    obtain ⟨A, c, r, h1, hr, hlc, hcm, hlm, -⟩ := h
    obtain ⟨hc0, hc1, hc2, hf0, hf1, hf2⟩ := own_cells3 h1
    have HU := Lib.hid (S64_any A l l.length c w hr.rd rfl (by unfold maxLen; omega))
    have bad : ∀ x, rdS 64 l = (0, 0, x) → 0 < x → x ≤ 100 → (x == 0) = false → Calls Try.prog 94 #[.pointer (some ⟨g, 0, none⟩), .func (.func 95) #[] #[]] w (SgPost .i64 (-9223372036854775808) 9223372036854775807 (fun x a => x = a) (pS 64) g t tl (.ok l) w) := by
      intro x hd hx hx2 hx3
      have HD := Lib.hid hd
      have HP := Lib.hid (pS_no hd (by omega))
      clear h1 hr hd hlc hcm hlm
      generalize l.length = q at *
      go_enter Try.func94, Try.ntmps94
      go_wp2_with fail
      refine HU.out.mono ?_
      rw [HD.out]
      simp only [three]
      rintro e w' ⟨rfl, rfl⟩
      go_wp2_with fail
      refine (HF.out x hx hx2).mono ?_
      rintro e w' ⟨⟨u, rfl⟩, h2, hc⟩
      have HC := Lib.hid (And.intro h2 hc)
      clear h2 hc
      go_wp2
      go_ret
      refine ⟨0, rfl, by omega, by omega, ?_, (fun a l' h => ?_), HC.out.2⟩
      · rw [nx_ok, HP.out]; exact HC.out.1
      · rw [bd_ok, HP.out] at h; cases h
    rcases rdS_cases 64 (by omega) (by omega) l with hd | hd | ⟨u, m, hd, hu0, hu1, hm1, hm2, hm3⟩
    · exact bad 3 hd (by omega) (by omega) rfl
    · exact bad 2 hd (by omega) (by omega) rfl
    · have HS := Lib.hid (rskip_any g t tl l m w HH.out hm3)
      have HD := Lib.hid hd
      have HP := Lib.hid (pS_ok hd)
      clear h1 hr hd hlc hcm bad hm3
      generalize l.length = q at *
      go_enter Try.func94, Try.ntmps94
      go_wp2_with fail
      refine HU.out.mono ?_
      rw [HD.out]
      simp only [three]
      rintro e w' ⟨rfl, rfl⟩
      go_wp2_with fail
      refine HS.out.mono ?_
      rintro e w' ⟨⟨u2, rfl⟩, h2, hc⟩
      have HC := Lib.hid (And.intro h2 hc)
      clear h2 hc
      go_wp2
      go_ret
      refine ⟨u, rfl, by omega, by omega, ?_, (fun a l' h => ?_), HC.out.2⟩
      · rw [nx_ok, HP.out]; simpa using HC.out.1
      · rw [bd_ok, HP.out] at h; injection h with h; injection h
theorem rS64_any (g : Nat) (t : TypeId) (tl : RTl) (s : St) (w : World) (h : RdrAt w g t tl s) :
    Calls Try.prog 59 #[.pointer (some ⟨g, 0, none⟩)] w (SgPost .i64 (-9223372036854775808) 9223372036854775807 (fun x a => x = a) (pS 64) g t tl s w) := by
  have HN := Lib.hid (rnumS64_any g t tl s w h)
  clear h
  go_enter Try.func59, Try.ntmps59
  go_wp2_with fail
  refine HN.out.mono ?_
  rintro e w' ⟨x, rfl, h0, h1, h2⟩
  have H2 := Lib.hid h2
  clear h2
  go_wp2
  go_ret
  exact ⟨x, rfl, h0, h1, H2.out⟩
end Go.Proofs.Ytdbbcbffmbcjiaa
