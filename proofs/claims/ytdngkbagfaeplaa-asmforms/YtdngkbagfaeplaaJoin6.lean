/- Texts joined: Nums32, CodeSrc, CodeSrc2, CodeSrc3, CodeBh, CodeNest, CodeIn, InsL. -/
import Derived.Test.YtdngkbagfaeplaaJoin3
import Derived.Test.YtdngkbagfaeplaaJoin5
import Derived.Laws.BitsAllLaws
import Derived.Laws.BitsLemmas
import Derived.Test.YtdngkbagfaeplaaJoin4
/- Slices of numbers of 32 bits: what the walks lean on. No function of the program. -/
namespace Go.Proofs.Ytdngkbagfaeplaa
open Go.RowKit
set_option maxRecDepth 100000
set_option linter.unusedVariables false

theorem under_nums32 : Try.prog.underlying 25 = some (.slice 23) := Try.underlying25
theorem num32_info : (Try.prog.info? 23).map (fun i => (i.zero, i.size, i.bytes)) = some (some (.int .u32 0), 1, 4) := by kernel_rfl
theorem num32_size : (Try.prog.info? 23).map (·.size) = some 1 := by kernel_rfl
def IsU32 (l : List Int) : Prop := ∀ z ∈ l, 0 ≤ z ∧ z < 4294967296
theorem IsU32.nil : IsU32 [] := fun z hz => by simp at hz
theorem IsU32.app {a b : List Int} (ha : IsU32 a) (hb : IsU32 b) : IsU32 (a ++ b) := fun z hz => by
  rcases List.mem_append.1 hz with h | h
  · exact ha z h
  · exact hb z h
theorem IsU32.one {z : Int} (h0 : 0 ≤ z) (h1 : z < 4294967296) : IsU32 [z] := fun y hy => by simp at hy; subst hy; exact ⟨h0, h1⟩
/-- A slice of numbers in a block of the call's own. -/
def OwnQ (w : World) (base : Nat) (v : Value) (l : List Int) : Prop := w.ownsRow base 23 1 v l.length (l.map (Value.int .u32))
/-- Numbers that are read, in blocks of X. -/
def RdQ (X : Nat → Prop) (w : World) (A : Option Addr) (l : List Int) : Prop := IsU32 l ∧ RdV X w A (l.map (Value.int .u32))
section
variable {X : Nat → Prop} {w w' : World} {A : Option Addr} {l : List Int} {B : Nat}
theorem RdQ.chg {S : Nat → Prop} (h : RdQ X w A l) (hc : Chg S w w') (hs : ∀ k, k < w.heap.size → X k → ¬ S k) : RdQ X w' A l := ⟨h.1, h.2.chg hc hs⟩
theorem RdQ.drewN (h : RdQ X w A l) (n : Nat) : RdQ X (w.drewN n) A l := ⟨h.1, h.2.drewN n⟩
theorem RdQ.later (h : RdQ X w A l) (hc : Below w.heap.size w w') : RdQ X w' A l := ⟨h.1, h.2.later hc⟩
theorem RdQ.mono {Y : Nat → Prop} (h : RdQ X w A l) (hx : ∀ k, k < w.heap.size → X k → Y k) : RdQ Y w A l := ⟨h.1, h.2.mono hx⟩
theorem RdQ.nil (X : Nat → Prop) (w : World) (A : Option Addr) : RdQ X w A [] := ⟨IsU32.nil, RdV.nil _ _ _⟩
theorem map_u32_get {j : Nat} (hj : j < l.length) : (l.map (Value.int .u32))[j]? = some (.int .u32 (l.getD j 0)) := by
  simp [List.getElem?_eq_getElem hj, List.getD_eq_getElem?_getD]
theorem RdQ.at_ (h : RdQ X w A l) {j : Nat} (hj : j < l.length) : ∃ b o, A = some ⟨b, o, none⟩ ∧ w.cell? ⟨b, o + j, none⟩ = some (.int .u32 (l.getD j 0)) ∧ 0 ≤ l.getD j 0 ∧ l.getD j 0 < 4294967296 := by
  obtain ⟨b, o, hA, hX, hlt, hc⟩ := h.2.spot (by simp; omega)
  refine ⟨b, o, hA, hc j _ (map_u32_get hj), h.1 _ ?_⟩
  rw [List.getD_eq_getElem?_getD, List.getElem?_eq_getElem hj]; exact List.getElem_mem hj
end
theorem OwnQ.nil (w : World) (base : Nat) : OwnQ w base (.slice none 0 0) [] := World.ownsRow_nil w base _ _
theorem OwnQ.rdQ {w : World} {base : Nat} {v : Value} {l : List Int} (h : OwnQ w base v l) (hl : IsU32 l) : ∃ A c, v = .slice A l.length c ∧ l.length ≤ c ∧ c ≤ maxLen ∧ RdQ (fun k => v.ownBlock = some k) w A l := by
  obtain ⟨A, c, h1, h2, h3, h4⟩ := RdV.of_own h
  exact ⟨A, c, h1, h2, h3, hl, h4⟩
theorem OwnQ.chg {S : Nat → Prop} {w w' : World} {base : Nat} {v : Value} {l : List Int} (h : OwnQ w base v l) (hc : Chg S w w') (hg : ∀ g, v.ownBlock = some g → ¬ S g) : OwnQ w' base v l := owns_chg h hc hg
theorem OwnQ.later {w w' : World} {base : Nat} {v : Value} {l : List Int} (h : OwnQ w base v l) (hb : Below w.heap.size w w') : OwnQ w' base v l := h.chg (S := fun _ => False) (Chg.of_below hb) fun _ _ => id
theorem OwnQ.base {w : World} {base base' : Nat} {v : Value} {l : List Int} (h : OwnQ w base v l) (hb : base' ≤ base) : OwnQ w base' v l := owns_base h hb

/-- The block that was just built for some numbers. -/
theorem rdQ_lit (w : World) (l : List Int) (hl : IsU32 l) : RdQ (fun k => k = w.heap.size) (w.alloc (.cells (l.map (Value.int .u32)).toArray 23)) (some ⟨w.heap.size, 0, none⟩) l := by
  refine ⟨hl, fun j u hu => ⟨_, rfl, by simp, ?_⟩⟩
  have h := (Own.new w 23 (l.map (Value.int .u32))).cell j
  rw [addPlain, Nat.zero_add, h, hu]

/-- append(s, z): one number more, out of the block that was just built for it. -/
theorem wpList_appQ1 {ops : Array Oper} {rest : List Oper} {o : Oper} {a : Act} {Q : Exit → Act → World → Prop} {w : World} (hgd : o.guard = none) (s x : Operand)
    (ho : o.op = .call { callee := .builtin .append, args := #[s, x], argTypes := #[25, 25] }) (base : Nat) (v : Value) (l : List Int) (hs : a.eval s = v) (hown : OwnQ w base v l)
    (z : Int) (hx : a.eval x = .slice (some ⟨w.heap.size, 0, none⟩) 1 1) (hz0 : 0 ≤ z) (hz1 : z < 4294967296) (hlen : l.length + 1 ≤ 1000000000) (hbase : base ≤ w.heap.size)
    (h : ∀ v' w', OwnQ w' base v' (l ++ [z]) → Below base w w' → wpList Try.prog ops Q rest (a.put o.dst v') w') : wpList Try.prog ops Q (o :: rest) a (w.alloc (.cells #[.int .u32 z] 23)) := by
  have hb : Below w.heap.size w (w.alloc (.cells #[.int .u32 z] 23)) := (Below.refl _ _).alloc (Nat.le_refl _) _
  have hr := rdQ_lit w [z] (IsU32.one hz0 hz1)
  have hown' := hown.later hb
  refine wpList_appG under_nums32 num32_info rfl (by omega) hgd s x ho base v l.length _ hs hown' _ 1 1 ([z].map (Value.int .u32)) hx (by simp) hr.2 (fun u hu => by obtain ⟨y, _, rfl⟩ := List.mem_map.1 hu; rfl) (by simp only [maxLen]; omega) (by omega) (by simp; omega) fun v' w' h1 h2 h3 => h v' w' ?_ ?_
  · unfold OwnQ; simpa using h1
  · exact (hb.mono hbase).trans ((Chg.of_grown h2).below (by simp; omega) fun i hi e => by have := owns_ge hown' e.symm; omega)
end Go.Proofs.Ytdngkbagfaeplaa

/- code's source: what its calls come to. -/
namespace Go.Proofs.Ytdngkbagfaeplaa
open Go.RowKit
set_option maxRecDepth 100000
set_option linter.unusedVariables false

theorem numbers_any (x : Int) (w : World) : Calls Try.prog 65 #[.int .i64 x] w fun e w' => e = .returned (.int .i64 (nums x)) ∧ w = w' := by
  go_enter Try.func65, Try.ntmps65
  go_wp2
  all_goals (go_ret; refine ⟨?_, rfl⟩; simp_all [nums])

def holdS (x : Int) (s : St) : St := if valE x = 0 then s else failS (valE x) s
theorem zero_key {s : St} {x : Int} (h3 : ∀ a l', bd s pByte = .ok (a, l') → x = a) :
    (x = 0 → nx pZero s = nx pByte s ∧ ∀ a l', bd s pZero = .ok (a, l') → 0 = a) ∧ (x ≠ 0 → nx pZero s = failS 2 (nx pByte s) ∧ ∀ a l', bd s pZero ≠ .ok (a, l')) := by
  cases s with
  | error e => exact ⟨fun _ => ⟨rfl, fun a l' h => by cases h⟩, fun _ => ⟨rfl, fun a l' h => by cases h⟩⟩
  | ok l =>
    simp only [nx_ok, bd_ok, pZero, seq] at h3 ⊢
    cases hp : pByte l with
    | error e => simp [failS]
    | ok r =>
      have := h3 r.1 r.2 (by rw [hp])
      subst this
      refine ⟨fun hx => ?_, fun hx => ?_⟩
      · simp only [bd_ok, hx, if_true]; exact ⟨trivial, fun a l' h => by injection h with h; injection h⟩
      · simp [hx, failS]
theorem al_key {s : St} {x : Int} (h3 : ∀ a l', bd s (pU 32) = .ok (a, l') → x = a) :
    (¬ 31 < x → nx pAl s = nx (pU 32) s ∧ ∀ a l', bd s pAl = .ok (a, l') → x = a) ∧ (31 < x → nx pAl s = failS 2 (nx (pU 32) s) ∧ ∀ a l', bd s pAl ≠ .ok (a, l')) := by
  cases s with
  | error e => exact ⟨fun _ => ⟨rfl, fun a l' h => by cases h⟩, fun _ => ⟨rfl, fun a l' h => by cases h⟩⟩
  | ok l =>
    simp only [nx_ok, bd_ok, pAl, seq] at h3 ⊢
    cases hp : pU 32 l with
    | error e => simp [failS]
    | ok r =>
      have := h3 r.1 r.2 (by rw [hp])
      subst this
      refine ⟨fun hx => ?_, fun hx => ?_⟩
      · simp only [bd_ok]; rw [if_neg hx]; exact ⟨rfl, fun a l' h => by injection h with h; injection h⟩
      · simp [hx, failS]
end Go.Proofs.Ytdngkbagfaeplaa

/- code's source: blocks' types, labels, types, numbers of instructions. -/
namespace Go.Proofs.Ytdngkbagfaeplaa
open Go.RowKit
set_option maxRecDepth 100000
set_option linter.unusedVariables false

theorem and127c (x : Int) : Go.bits .and .u8 (x % 256) 127 = x % 128 := by
  have h : 0 ≤ x % 256 ∧ x % 256 < 256 ∧ x % 256 % 128 = x % 128 := by omega
  exact (Go.bits_mask .u8 8 (by decide) Go.wraps_u8 7 (by decide) _ h.1 h.2.1).trans h.2.2
theorem RdrAt.lenS_le {w : World} {g : Nat} {t : TypeId} {tl : RTl} {s : St} (h : RdrAt w g t tl s) : lenS s ≤ 1000000 := by
  cases s with
  | error e => simp [lenS]
  | ok l => obtain ⟨A, c, r, h1, hr, hlc, hcm, hlm, -⟩ := h; exact hlm

theorem bl_key {s : St} {x : Int} (h3 : ∀ a l', bd s (pS 33) = .ok (a, l') → x = a) :
    (0 ≤ x → nx pBl s = nx (pS 33) s ∧ ∀ a l', bd s pBl = .ok (a, l') → x = a) ∧
    (¬ 0 ≤ x → 1 < (lenS s : Int) - lenS (nx (pS 33) s) → nx pBl s = failS 2 (nx (pS 33) s) ∧ ∀ a l', bd s pBl = .ok (a, l') → x = a) ∧
    (¬ 0 ≤ x → ¬ 1 < (lenS s : Int) - lenS (nx (pS 33) s) → x = -64 → nx pBl s = nx (pS 33) s ∧ ∀ a l', bd s pBl = .ok (a, l') → x = a) ∧
    (¬ 0 ≤ x → ¬ 1 < (lenS s : Int) - lenS (nx (pS 33) s) → x ≠ -64 → nx pBl s = holdS (x % 128) (nx (pS 33) s) ∧ ∀ a l', bd s pBl = .ok (a, l') → x = a) := by
  have hv : ∀ a l', bd s pBl = .ok (a, l') → x = a := fun a l' h => by
    cases s with
    | error e => cases h
    | ok l =>
      simp only [bd_ok, pBl] at h h3
      cases hp : pS 33 l with
      | error e => rw [hp] at h; cases h
      | ok r =>
        rw [hp] at h
        have e := h3 r.1 r.2 (by rw [hp])
        simp only [bd_ok] at h
        split at h
        · injection h with h; subst h; exact e
        · split at h
          · cases h
          · split at h
            · injection h with h; subst h; exact e
            · split at h
              · injection h with h; subst h; exact e
              · cases h
  refine ⟨fun h1 => ⟨?_, hv⟩, fun h1 h2 => ⟨?_, hv⟩, fun h1 h2 h4 => ⟨?_, hv⟩, fun h1 h2 h4 => ⟨?_, hv⟩⟩
  all_goals
    cases s with
    | error e => first | rfl | (simp [holdS, failS])
    | ok l =>
      simp only [nx_ok, bd_ok, pBl] at h3 ⊢
      cases hp : pS 33 l with
      | error e => first | rfl | (simp [holdS, failS])
      | ok r =>
        have := h3 r.1 r.2 (by rw [hp])
        subst this
        simp only [nx_ok, hp, bd_ok, lenS] at *
        first
          | (rw [if_pos h1]; rfl)
          | (rw [if_neg h1, if_pos (by omega)]; rfl)
          | (rw [if_neg h1, if_neg (by omega), if_pos h4]; rfl)
          | (rw [if_neg h1, if_neg (by omega), if_neg h4]; unfold holdS; split <;> simp_all [failS])
/-- An int that was read. -/
def IPostB (p : PR Int) (g : Nat) (t : TypeId) (tl : RTl) (s : St) (w : World) (e : Ending) (w' : World) : Prop :=
  ∃ x, e = .returned (.int .i64 x) ∧ -9223372036854775808 ≤ x ∧ x ≤ 9223372036854775807 ∧ RdrAt w' g t tl (nx p s) ∧ (∀ a l', bd s p = .ok (a, l') → x = a) ∧ Chg (fun k => k = g) w w'
end Go.Proofs.Ytdngkbagfaeplaa

/- code's source: labels, types, numbers of instructions. -/
namespace Go.Proofs.Ytdngkbagfaeplaa
open Go.RowKit
set_option maxRecDepth 100000
set_option linter.unusedVariables false

/-- Numbers of 32 bits that were read, into new memory. -/
def QPost (p : PR (List Int)) (g : Nat) (t : TypeId) (tl : RTl) (s : St) (w : World) (e : Ending) (w' : World) : Prop :=
  ∃ v y, e = .returned v ∧ OwnQ w' w.heap.size v y ∧ IsU32 y ∧ RdrAt w' g t tl (nx p s) ∧ (∀ a l', bd s p = .ok (a, l') → y = a) ∧ Chg (fun k => k = g) w w' ∧ y.length ≤ 1000
theorem ty28_key {s : St} {n x : Int} {s1 s2 : St} (h1 : ∀ a l', bd s (pU 32) = .ok (a, l') → n = a) (e1 : s1 = if n = 1 then nx (pU 32) s else failS 2 (nx (pU 32) s)) (h2 : ∀ a l', bd s1 pByte = .ok (a, l') → x = a) (e2 : s2 = holdS x (nx pByte s1)) :
    nx (pTy 28) s = s2 ∧ ∀ a l', bd s (pTy 28) = .ok (a, l') → x = a := by
  subst e1 e2
  unfold pTy
  rw [if_pos rfl]
  cases s with
  | error e => simp [holdS, failS]
  | ok l =>
    simp only [nx_ok, bd_ok, seq] at h1 h2 ⊢
    cases hp : pU 32 l with
    | error e => simp [holdS, failS]
    | ok r =>
      have := h1 r.1 r.2 (by rw [hp])
      subst this
      rw [hp] at h2
      simp only [bd_ok] at h2 ⊢
      by_cases hn : r.1 = 1
      · simp only [hn, if_true, bd_ok, nx_ok] at h2 ⊢
        unfold pVal
        simp only [seq]
        cases hb : pByte r.2 with
        | error e => simp [holdS, failS]
        | ok q =>
          have := h2 q.1 q.2 (by rw [hb])
          subst this
          by_cases hv : valE q.1 = 0
          · simp only [bd_ok, hv, holdS, if_true]; exact ⟨trivial, fun a l' h => by injection h with h; injection h⟩
          · simp [holdS, hv, failS]
      · simp [hn, failS, holdS]
theorem ty_key {s : St} {op x : Int} {s2 : St} (ho : op ≠ 28) (h1 : ∀ a l', bd s pByte = .ok (a, l') → x = a) (e2 : s2 = if x = 112 ∨ x = 111 then holdS x (nx pByte s) else failS 2 (holdS x (nx pByte s))) :
    nx (pTy op) s = s2 ∧ ∀ a l', bd s (pTy op) = .ok (a, l') → x = a := by
  subst e2
  unfold pTy
  rw [if_neg ho]
  cases s with
  | error e => simp [holdS, failS]
  | ok l =>
    simp only [nx_ok, bd_ok, seq, pVal] at h1 ⊢
    cases hp : pByte l with
    | error e => simp [holdS, failS]
    | ok r =>
      have := h1 r.1 r.2 (by rw [hp])
      subst this
      simp only [bd_ok]
      by_cases hv : valE r.1 = 0
      · simp only [bd_ok, hv, if_true, holdS]
        by_cases hr : r.1 = 112 ∨ r.1 = 111
        · simp only [if_pos hr, bd_ok]; exact ⟨trivial, fun a l' h => by injection h with h; injection h⟩
        · simp [if_neg hr, failS]
      · simp [holdS, hv, failS]
theorem op_one {s : St} {b : Int} (hb : b ≠ 252) (h1 : ∀ a l', bd s pByte = .ok (a, l') → b = a) : nx pOp s = nx pByte s ∧ ∀ a l', bd s pOp = .ok (a, l') → b = a := by
  cases s with
  | error e => exact ⟨rfl, fun a l' h => by cases h⟩
  | ok l =>
    simp only [nx_ok, bd_ok, seq, pOp] at h1 ⊢
    cases hp : pByte l with
    | error e => simp
    | ok r =>
      have := h1 r.1 r.2 (by rw [hp])
      subst this
      simp only [bd_ok, if_neg hb]; exact ⟨trivial, fun a l' h => by injection h with h; injection h⟩
theorem op_two {s : St} {n : Int} (h0 : ∀ a l', bd s pByte = .ok (a, l') → 252 = a) (h1 : ∀ a l', bd (nx pByte s) (pU 32) = .ok (a, l') → n = a) :
    (¬ 255 < n → nx pOp s = nx (pU 32) (nx pByte s) ∧ ∀ a l', bd s pOp = .ok (a, l') → 64512 + n = a) ∧ (255 < n → nx pOp s = failS 2 (nx (pU 32) (nx pByte s)) ∧ ∀ a l', bd s pOp ≠ .ok (a, l')) := by
  cases s with
  | error e => exact ⟨fun _ => ⟨rfl, fun a l' h => by cases h⟩, fun _ => ⟨rfl, fun a l' h => by cases h⟩⟩
  | ok l =>
    simp only [nx_ok, bd_ok, seq, pOp] at h0 h1 ⊢
    cases hp : pByte l with
    | error e => simp [failS]
    | ok r =>
      have := h0 r.1 r.2 (by rw [hp])
      rw [hp] at h1
      simp only [bd_ok, if_pos this.symm, nx_ok] at h1 ⊢
      simp only [seq]
      cases hq : pU 32 r.2 with
      | error e => simp [failS]
      | ok q =>
        have := h1 q.1 q.2 (by rw [hq])
        subst this
        refine ⟨fun hx => ?_, fun hx => ?_⟩
        · simp only [bd_ok]; rw [if_neg hx]; exact ⟨rfl, fun a l' h => by injection h with h; injection h⟩
        · simp [hx, failS]
end Go.Proofs.Ytdngkbagfaeplaa

/- code's source: what stands behind an instruction. -/
namespace Go.Proofs.Ytdngkbagfaeplaa
open Go.RowKit
set_option maxRecDepth 100000
set_option linter.unusedVariables false

/-- An instruction's cells. -/
def insC (x : Ins) (A : Option Addr) (c : Nat) : List Value := [.int .i64 x.op, .int .u32 x.a, .int .u32 x.b, .int .u64 x.n, .slice A x.l.length c, .int .i64 x.t]
/-- An instruction whose numbers fit. -/
structure InsOk (x : Ins) : Prop where
  a0 : 0 ≤ x.a
  a1 : x.a < 4294967296
  b0 : 0 ≤ x.b
  b1 : x.b < 4294967296
  n0 : 0 ≤ x.n
  n1 : x.n < 18446744073709551616
  t0 : -9223372036854775808 ≤ x.t
  t1 : x.t ≤ 9223372036854775807
  l : IsU32 x.l
  m : x.l.length ≤ 1000
/-- The labels of an instruction, read in blocks of X. -/
def LabX (X : Nat → Prop) (w : World) (x : Ins) (A : Option Addr) (c : Nat) : Prop := RdV X w A (x.l.map (Value.int .u32)) ∧ x.l.length ≤ c ∧ c ≤ maxLen
theorem LabX.nil (X : Nat → Prop) (w : World) {x : Ins} (h : x.l = []) : LabX X w x none 0 := ⟨by rw [h]; exact RdV.nil _ _ _, by rw [h]; exact Nat.le_refl _, Nat.zero_le _⟩
theorem LabX.chg {X S : Nat → Prop} {w w' : World} {x : Ins} {A : Option Addr} {c : Nat} (h : LabX X w x A c) (hc : Chg S w w') (hs : ∀ k, k < w.heap.size → X k → ¬ S k) : LabX X w' x A c := ⟨h.1.chg hc hs, h.2⟩
theorem LabX.later {X : Nat → Prop} {w w' : World} {x : Ins} {A : Option Addr} {c : Nat} (h : LabX X w x A c) (hb : Below w.heap.size w w') : LabX X w' x A c := ⟨h.1.later hb, h.2⟩
theorem LabX.mono {X Y : Nat → Prop} {w : World} {x : Ins} {A : Option Addr} {c : Nat} (h : LabX X w x A c) (hx : ∀ k, k < w.heap.size → X k → Y k) : LabX Y w x A c := ⟨h.1.mono hx, h.2⟩

/-- A reader in g, an instruction's cells in gx. -/
def BhAt (w : World) (g : Nat) (t : TypeId) (tl : RTl) (s : St) (gx : Nat) (Q : List Value) : Prop := RdrAt w g t tl s ∧ Own w gx 27 Q ∧ g < gx
theorem BhAt.step {w w' : World} {g gx : Nat} {t : TypeId} {tl : RTl} {s s' : St} {Q : List Value} (h : BhAt w g t tl s gx Q) (h1 : RdrAt w' g t tl s') (hc : Chg (fun k => k = g) w w') : BhAt w' g t tl s' gx Q :=
  ⟨h1, h.2.1.chg hc (by have := h.2.2; omega), h.2.2⟩
theorem BhAt.set {w : World} {g gx : Nat} {t : TypeId} {tl : RTl} {s : St} {Q : List Value} (h : BhAt w g t tl s gx Q) (j : Nat) (u : Value) : BhAt (w.setCell ⟨gx, j, none⟩ u) g t tl s gx (Q.set j u) :=
  ⟨h.1.chg (chgSet w gx j u) (fun k hk e => by have := h.2.2; omega), h.2.1.set j u, h.2.2⟩
theorem own_cells6 {w : World} {g : Nat} {t : TypeId} {a b c d e f : Value} {tl : List Value} (h : Own w g t (a :: b :: c :: d :: e :: f :: tl)) : w.cell? ⟨g, 0, none⟩ = some a ∧ w.cell? ⟨g, 1, none⟩ = some b ∧ w.cell? ⟨g, 2, none⟩ = some c ∧ w.cell? ⟨g, 3, none⟩ = some d ∧ w.cell? ⟨g, 4, none⟩ = some e ∧ w.cell? ⟨g, 5, none⟩ = some f ∧ w.frozen? ⟨g, 0, none⟩ = false ∧ w.frozen? ⟨g, 1, none⟩ = false ∧ w.frozen? ⟨g, 2, none⟩ = false ∧ w.frozen? ⟨g, 3, none⟩ = false ∧ w.frozen? ⟨g, 4, none⟩ = false ∧ w.frozen? ⟨g, 5, none⟩ = false :=
  ⟨h.cell 0, h.cell 1, h.cell 2, h.cell 3, h.cell 4, h.cell 5, h.frozen 0, h.frozen 1, h.frozen 2, h.frozen 3, h.frozen 4, h.frozen 5⟩

def BhPost (p : PR Ins) (op : Int) (g : Nat) (t : TypeId) (tl : RTl) (s : St) (gx : Nat) (w : World) (e : Ending) (w' : World) : Prop :=
  ∃ u x A c, e = .returned u ∧ BhAt w' g t tl (nx p s) gx (insC x A c) ∧ LabX (fun k => w.heap.size ≤ k) w' x A c ∧ InsOk x ∧ x.op = op ∧ (∀ a l', bd s p = .ok (a, l') → x = a) ∧ Chg (fun k => k = g ∨ k = gx) w w'
theorem chgG {w w' : World} {g gx : Nat} (h : Chg (fun k => k = g) w w') : Chg (fun k => k = g ∨ k = gx) w w' := h.mono fun k _ e => .inl e
theorem chgX {w : World} {g gx : Nat} (j : Nat) (u : Value) : Chg (fun k => k = g ∨ k = gx) w (w.setCell ⟨gx, j, none⟩ u) := (chgSet w gx j u).mono fun k _ e => .inr e
theorem chgT {a b c : World} {g gx : Nat} (h : Chg (fun k => k = g ∨ k = gx) a b) (k : Chg (fun k => k = g ∨ k = gx) b c) : Chg (fun k => k = g ∨ k = gx) a c := h.trans k fun _ _ e => e

/-- One is read, and laid. -/
theorem bh_one {α : Type} {p : PR α} {f : α → Ins} {s : St} {a : α} (h : ∀ b l', bd s p = .ok (b, l') → a = b) : nx (seq p fun a l => .ok (f a, l)) s = nx p s ∧ ∀ x l', bd s (seq p fun a l => .ok (f a, l)) = .ok (x, l') → f a = x := by
  obtain ⟨k1, k2⟩ := nx_seq p (fun a l => .ok (f a, l)) s a h
  rw [k1, k2]
  cases nx p s with
  | error e => exact ⟨rfl, fun x l' h => by cases h⟩
  | ok l => exact ⟨rfl, fun x l' h => by simp only [bd_ok] at h; injection h with h; injection h⟩
theorem bh_two {α β : Type} {p : PR α} {q : PR β} {f : α → β → Ins} {s : St} {a : α} {b : β} (h : ∀ b l', bd s p = .ok (b, l') → a = b) (h2 : ∀ c l', bd (nx p s) q = .ok (c, l') → b = c) :
    nx (seq p fun a => seq q fun b l => .ok (f a b, l)) s = nx q (nx p s) ∧ ∀ x l', bd s (seq p fun a => seq q fun b l => .ok (f a b, l)) = .ok (x, l') → f a b = x := by
  obtain ⟨k1, k2⟩ := nx_seq p (fun a => seq q fun b l => .ok (f a b, l)) s a h
  rw [k1, k2]
  exact bh_one h2

theorem pBh1 (op : Int) : pBh 1 op = seq (pNm op 0) fun a l => .ok (⟨op, a, 0, 0, [], 0⟩, l) := by unfold pBh; simp
theorem pBh2 (op : Int) : pBh 2 op = seq (pNm op 0) fun a => seq (pNm op 1) fun b l => .ok (⟨op, a, b, 0, [], 0⟩, l) := by unfold pBh; simp
theorem pBh3 (op : Int) : pBh 3 op = seq (pS 32) fun x l => .ok (⟨op, 0, 0, x % 4294967296, [], 0⟩, l) := by unfold pBh; simp
theorem pBh4 (op : Int) : pBh 4 op = seq (pS 64) fun x l => .ok (⟨op, 0, 0, x % 18446744073709551616, [], 0⟩, l) := by unfold pBh; simp
theorem pBh5 (op : Int) : pBh 5 op = seq pAl fun a => seq (pU 32) fun b l => .ok (⟨op, a, b, 0, [], 0⟩, l) := by unfold pBh; simp
theorem pBh6 (op : Int) : pBh 6 op = seq pBl fun t l => .ok (⟨op, 0, 0, 0, [], t⟩, l) := by unfold pBh; simp
theorem pBh7 (op : Int) : pBh 7 op = seq pLabels fun ls => seq (pU 32) fun a l => .ok (⟨op, a, 0, 0, ls, 0⟩, l) := by unfold pBh; simp
theorem pBh8 (op : Int) : pBh 8 op = seq (pTy op) fun a l => .ok (⟨op, a, 0, 0, [], 0⟩, l) := by unfold pBh; simp
/-- One is read as another, and laid. -/
theorem bh_rel {p : PR Int} {f : Int → Ins} {R : Int → Int → Prop} {s : St} {y : Ins} {x : Int} (h : ∀ b l', bd s p = .ok (b, l') → R x b) (hf : ∀ b, R x b → y = f b) : nx (seq p fun a l => .ok (f a, l)) s = nx p s ∧ ∀ z l', bd s (seq p fun a l => .ok (f a, l)) = .ok (z, l') → y = z := by
  cases s with
  | error e => exact ⟨rfl, fun z l' h => by cases h⟩
  | ok l =>
    simp only [nx_ok, bd_ok, seq] at h ⊢
    cases hp : p l with
    | error e => exact ⟨rfl, fun z l' h => by cases h⟩
    | ok r =>
      refine ⟨rfl, fun z l' h2 => ?_⟩
      simp only [bd_ok] at h2
      injection h2 with h2
      injection h2 with h2 _
      rw [← h2]
      exact hf _ (h r.1 r.2 (by rw [hp]))

theorem z1 : ∀ op, insC ⟨op, 0, 0, 0, [], 0⟩ none 0 = [.int .i64 op, .int .u32 0, .int .u32 0, .int .u64 0, .slice none 0 0, .int .i64 0] := fun _ => rfl
section
variable (op : Int) (g : Nat) (t : TypeId) (tl : RTl) (s : St) (gx : Nat) (w : World) (h : BhAt w g t tl s gx (insC ⟨op, 0, 0, 0, [], 0⟩ none 0))
include h
set_option maxHeartbeats 1000000
end
end Go.Proofs.Ytdngkbagfaeplaa

/- code's source: what blocks are open. -/
namespace Go.Proofs.Ytdngkbagfaeplaa
open Go.RowKit
set_option maxRecDepth 100000
set_option linter.unusedVariables false

def nstS (op : Int) (o : List Int) (s : St) : St := match nestP op o with
  | .error e => failS e s
  | .ok _ => s
theorem RdrAt.own {w : World} {g : Nat} {t : TypeId} {tl : RTl} {s : St} (h : RdrAt w g t tl s) : ∃ A n c r e, Own w g t (.slice A n c :: .int .i64 r :: .int .i64 e :: tl.2) := by
  cases s with
  | ok l => obtain ⟨A, c, r, h1, _⟩ := h; exact ⟨A, _, c, r, 0, h1⟩
  | error e => exact ⟨none, 0, 0, 0, e, h.1⟩
theorem RdrAt.tail {w : World} {g N : Nat} {t : TypeId} {L L' : List Value} {s : St} (h : RdrAt w g t (N, L) s) (j : Nat) (u : Value) (hL : L' = L.set j u) : RdrAt (w.setCell ⟨g, 3 + j, none⟩ u) g t (N, L') s := by
  have hc := chgSet w g (3 + j) u
  have e : ∀ a b c : Value, (a :: b :: c :: L).set (3 + j) u = a :: b :: c :: L' := fun a b c => by
    rw [hL, show 3 + j = j + 1 + 1 + 1 from by omega]; rfl
  cases s with
  | ok l =>
    obtain ⟨A, c, r, h1, h2, h5⟩ := h
    refine ⟨A, c, r, ?_, h2.chg hc fun k _ hk e => by omega, h5⟩
    have := h1.set (3 + j) u
    rwa [e] at this
  | error x =>
    refine ⟨?_, h.2⟩
    have := h.1.set (3 + j) u
    rwa [e] at this
theorem own_cells5 {w : World} {g : Nat} {t : TypeId} {a b c d e : Value} {tl : List Value} (h : Own w g t (a :: b :: c :: d :: e :: tl)) : w.cell? ⟨g, 3, none⟩ = some d ∧ w.cell? ⟨g, 4, none⟩ = some e ∧ w.frozen? ⟨g, 3, none⟩ = false ∧ w.frozen? ⟨g, 4, none⟩ = false :=
  ⟨h.cell 3, h.cell 4, h.frozen 3, h.frozen 4⟩
theorem nst_ok {op : Int} {o : List Int} {s : St} {r : List Int × Bool} (h : nestP op o = .ok r) : nstS op o s = s := by unfold nstS; rw [h]
theorem nst_no {op : Int} {o : List Int} {s : St} {e : Int} (h : nestP op o = .error e) : nstS op o s = failS e s := by unfold nstS; rw [h]

/-- A slice of ints of the call's own that is not empty: where it lies. -/
theorem OwnI.spot {w : World} {base : Nat} {v : Value} {l : List Int} (h : OwnI w base v l) (hp : 0 < l.length) : ∃ g c, v = .slice (some ⟨g, 0, none⟩) l.length c ∧ base ≤ g ∧ g < w.heap.size ∧ l.length ≤ c ∧ c ≤ maxLen ∧ (∀ i, i < l.length → w.cell? ⟨g, i, none⟩ = some (.int .i64 (l.getD i 0)) ∧ w.frozen? ⟨g, i, none⟩ = false) := by
  have hlt := fun g hg => owns_lt (g := g) h hg
  rcases h.2 with ⟨_, h0⟩ | ⟨g, cap, cur, rfl, hg, hh, hn, hm, hs, ht⟩
  · omega
  · refine ⟨g, cap, rfl, hg, hlt g rfl, hn, hm, fun i hi => ⟨?_, World.ownsRow.frozenAt h i⟩⟩
    rw [World.ownsRow.cellAt h i (by omega), List.getElem?_map, List.getElem?_eq_getElem hi]
    simp [List.getD_eq_getElem?_getD, List.getElem?_eq_getElem hi]
theorem OwnI.store {w : World} {base g c : Nat} {l : List Int} (h : OwnI w base (.slice (some ⟨g, 0, none⟩) l.length c) l) (j : Nat) (z : Int) : OwnI (w.setCell ⟨g, j, none⟩ (.int .i64 z)) base (.slice (some ⟨g, 0, none⟩) l.length c) (l.set j z) := by
  have := World.ownsRow.stored h j (.int .i64 z)
  unfold OwnI
  rw [List.length_set, List.map_set]
  exact this.1
theorem OwnI.pop {w : World} {base g c : Nat} {l : List Int} {z : Int} (h : OwnI w base (.slice (some ⟨g, 0, none⟩) (l ++ [z]).length c) (l ++ [z])) : OwnI w base (.slice (some ⟨g, 0, none⟩) l.length c) l := by
  unfold OwnI at h ⊢
  rw [List.length_append, List.length_singleton, List.map_append] at h
  exact ownsRow_pop (by simp) h
theorem last_of (o : List Int) : o = [] ∨ ∃ p z, o = p ++ [z] := by
  rcases List.eq_nil_or_concat o with h | ⟨p, z, h⟩
  · exact .inl h
  · exact .inr ⟨p, z, by rw [h]; simp⟩
theorem last_get (p : List Int) (z : Int) : (p ++ [z]).getD p.length 0 = z := by simp [List.getD_eq_getElem?_getD]
theorem set_last (p : List Int) (z y : Int) : (p ++ [z]).set p.length y = p ++ [y] := by simp

theorem OwnI.far {w w' : World} {g : Nat} {v : Value} {l : List Int} (h : OwnI w (g + 1) v l) (hc : Chg (fun k => k = g) w w') : OwnI w' (g + 1) v l := h.chg hc fun k hk e => by have := owns_ge h hk; omega
end Go.Proofs.Ytdngkbagfaeplaa

/- code's source: an instruction, with what is open. -/
namespace Go.Proofs.Ytdngkbagfaeplaa
open Go.RowKit
set_option maxRecDepth 100000
set_option linter.unusedVariables false

def insV (x : Ins) (A : Option Addr) (c : Nat) : Value := .agg #[.int .i64 x.op, .int .u32 x.a, .int .u32 x.b, .int .u64 x.n, .slice A x.l.length c, .int .i64 x.t]

def put6 (w : World) (g : Nat) (a : Array Value) : World := ((((((w.setCell ⟨g, 0, none⟩ (a.getD 0 undef)).setCell ⟨g, 1, none⟩ (a.getD 1 undef)).setCell ⟨g, 2, none⟩ (a.getD 2 undef)).setCell ⟨g, 3, none⟩ (a.getD 3 undef)).setCell ⟨g, 4, none⟩ (a.getD 4 undef)).setCell ⟨g, 5, none⟩ (a.getD 5 undef))
theorem chg6 (w : World) (g : Nat) (a : Array Value) : Chg (fun k => k = g) w (put6 w g a) :=
  (((((chgSet w g 0 _).trans (chgSet _ g 1 _) fun _ _ e => e).trans (chgSet _ g 2 _) fun _ _ e => e).trans (chgSet _ g 3 _) fun _ _ e => e).trans (chgSet _ g 4 _) fun _ _ e => e).trans (chgSet _ g 5 _) fun _ _ e => e
theorem own_put6 {w : World} {g : Nat} {t : TypeId} {b0 b1 b2 b3 b4 b5 : Value} (h : Own w g t [b0, b1, b2, b3, b4, b5]) (a0 a1 a2 a3 a4 a5 : Value) : Own (put6 w g #[a0, a1, a2, a3, a4, a5]) g t [a0, a1, a2, a3, a4, a5] :=
  (((((h.set 0 a0).set 1 a1).set 2 a2).set 3 a3).set 4 a4).set 5 a5

theorem kd_imm (x : Int) : 0 ≤ (kd x).1 ∧ (kd x).1 ≤ 8 ∧ 0 ≤ (kd x).2 ∧ (kd x).2 ≤ 5 := by
  unfold kd
  split
  · simp
  · split
    · simp
    · split
      · simp
      · split
        · unfold kf; split
          · simp
          · split <;> simp
        · unfold kb
          split; · simp
          split; · simp
          split; · simp
          split; · simp
          split; · simp
          split; · simp
          split; · simp
          split <;> simp
theorem in_bad {s : St} {op : Int} {o : List Int} (h : ∀ a l', bd s pOp = .ok (a, l') → op = a) (hk : (kd op).2 ≠ 0) : nx (pSt o) s = failS (kd op).2 (nx pOp s) ∧ ∀ r l', bd s (pSt o) ≠ .ok (r, l') := by
  cases s with
  | error e => exact ⟨rfl, fun a l' h => by cases h⟩
  | ok l =>
    simp only [nx_ok, bd_ok, pSt, pIn, seq] at h ⊢
    cases hp : pOp l with
    | error e => simp [failS]
    | ok r =>
      have := h r.1 r.2 (by rw [hp])
      subst this
      simp [hk, failS]
theorem in_good {s : St} {op : Int} {o : List Int} {x : Ins} {o' : List Int} {over' : Bool} (h : ∀ a l', bd s pOp = .ok (a, l') → op = a) (hk : (kd op).2 = 0) (hx : ∀ a l', bd (nx pOp s) (pBh (kd op).1 op) = .ok (a, l') → x = a) (hop : x.op = op) (hn : ∀ r, nestP op o = .ok r → o' = r.1 ∧ over' = r.2) :
    nx (pSt o) s = nstS op o (nx (pBh (kd op).1 op) (nx pOp s)) ∧ ∀ r l', bd s (pSt o) = .ok (r, l') → r = (x, o', over') := by
  subst hop
  cases s with
  | error e => refine ⟨?_, fun a l' h => by cases h⟩; simp only [nx_error]; unfold nstS; split <;> rfl
  | ok l =>
    simp only [nx_ok, bd_ok, pSt, pIn, seq] at h hx ⊢
    cases hp : pOp l with
    | error e => refine ⟨?_, fun a l' h => by cases h⟩; simp only [bd_error, nx_error]; unfold nstS; split <;> rfl
    | ok r =>
      have e := h r.1 r.2 (by rw [hp])
      rw [hp] at hx
      simp only [bd_ok, ← e, hk, if_true, nx_ok] at hx ⊢
      cases hq : pBh (kd x.op).1 x.op r.2 with
      | error e => refine ⟨?_, fun a l' h => by cases h⟩; simp only [bd_error]; unfold nstS; split <;> rfl
      | ok q =>
        have e2 := hx q.1 q.2 (by rw [hq])
        simp only [bd_ok, ← e2]
        unfold nstS
        cases hz : nestP x.op o with
        | error e => exact ⟨rfl, fun a l' h => by cases h⟩
        | ok z =>
          obtain ⟨h1, h2⟩ := hn z hz
          refine ⟨rfl, fun r l' h => ?_⟩
          simp only [bd_ok] at h
          injection h with h
          injection h with h _
          rw [← h, h1, h2]

end Go.Proofs.Ytdngkbagfaeplaa

/- Lists of instructions in memory. No function of the program. -/
namespace Go.Proofs.Ytdngkbagfaeplaa
open Go.RowKit
set_option maxRecDepth 100000
set_option linter.unusedVariables false

theorem under_ins : Try.prog.underlying 40 = some (.slice 27) := Try.underlying40
theorem ins_info : (Try.prog.info? 27).map (fun i => (i.zero, i.size, i.bytes)) = some (some (.agg #[.int .i64 0, .int .u32 0, .int .u32 0, .int .u64 0, .slice none 0 0, .int .i64 0]), 6, 56) := by kernel_rfl
/-- An instruction, and where its labels lie. -/
structure IV where
  x : Ins
  A : Option Addr
  c : Nat
def IV.cells (i : IV) : List Value := insC i.x i.A i.c
def flat : List IV → List Value
  | [] => []
  | i :: is => i.cells ++ flat is
theorem flat_app (a b : List IV) : flat (a ++ b) = flat a ++ flat b := by
  induction a with
  | nil => rfl
  | cons i a ih => simp [flat, ih]
theorem flat_len (a : List IV) : (flat a).length = a.length * 6 := by
  induction a with
  | nil => rfl
  | cons i a ih => simp [flat, ih, IV.cells, insC]; omega
theorem flat_get (a : List IV) : ∀ (j : Nat) (i : IV), a[j]? = some i → ∀ k, k < 6 → (flat a)[j * 6 + k]? = (i.cells)[k]? := by
  induction a with
  | nil => intro j i h; simp at h
  | cons y a ih =>
    intro j i h k hk
    have hl : y.cells.length = 6 := rfl
    cases j with
    | zero =>
      simp at h; subst h
      rw [flat, List.getElem?_append_left (by omega)]
      congr 1; omega
    | succ j =>
      rw [flat, List.getElem?_append_right (by omega), hl, show (j + 1) * 6 + k - 6 = j * 6 + k from by omega]
      exact ih j i (by simpa using h) k hk
theorem flat_one (a : List IV) : ∀ u ∈ flat a, u.oneCell' = true := by
  induction a with
  | nil => intro u hu; simp [flat] at hu
  | cons i a ih =>
    intro u hu
    rw [flat, List.mem_append] at hu
    rcases hu with h | h
    · simp [IV.cells, insC] at h
      rcases h with rfl | rfl | rfl | rfl | rfl | rfl <;> rfl
    · exact ih u h

/-- Instructions in a row of the call's own; their labels in blocks of X, which has not the row's. -/
def OwnN (X : Nat → Prop) (w : World) (base : Nat) (v : Value) (is : List IV) : Prop :=
  w.ownsRow base 27 6 v is.length (flat is) ∧ (∀ i ∈ is, LabX X w i.x i.A i.c ∧ InsOk i.x) ∧ ∀ k, v.ownBlock = some k → ¬ X k
/-- Instructions that are read, in blocks of X. -/
def RdN (X : Nat → Prop) (w : World) (v : Value) (is : List IV) : Prop :=
  ∃ A c, v = .slice A is.length c ∧ is.length ≤ c ∧ c ≤ maxLen ∧ RdV X w A (flat is) ∧ ∀ i ∈ is, LabX X w i.x i.A i.c ∧ InsOk i.x
section
variable {X Y S : Nat → Prop} {w w' : World} {base : Nat} {v : Value} {is : List IV}
theorem OwnN.nil (X : Nat → Prop) (w : World) (base : Nat) : OwnN X w base (.slice none 0 0) [] := ⟨World.ownsRow_nil w base _ _, fun i hi => by simp at hi, fun k hk => by simp [Value.ownBlock] at hk⟩
theorem OwnN.chg (h : OwnN X w base v is) (hc : Chg S w w') (hs : ∀ k, k < w.heap.size → X k → ¬ S k) (hv : ∀ k, v.ownBlock = some k → ¬ S k) : OwnN X w' base v is :=
  ⟨owns_chg h.1 hc hv, fun i hi => ⟨(h.2.1 i hi).1.chg hc hs, (h.2.1 i hi).2⟩, h.2.2⟩
theorem OwnN.later (h : OwnN X w base v is) (hb : Below w.heap.size w w') : OwnN X w' base v is := h.chg (S := fun _ => False) (Chg.of_below hb) (fun _ _ _ => id) fun _ _ => id
theorem OwnN.mono (h : OwnN X w base v is) (hx : ∀ k, k < w.heap.size → X k → Y k) (hv : ∀ k, v.ownBlock = some k → ¬ Y k) : OwnN Y w base v is := ⟨h.1, fun i hi => ⟨(h.2.1 i hi).1.mono hx, (h.2.1 i hi).2⟩, hv⟩
theorem OwnN.rd (h : OwnN X w base v is) : RdN (fun k => X k ∨ v.ownBlock = some k) w v is := by
  obtain ⟨A, c, hv, hn, hm, hr⟩ := RdV.of_own h.1
  exact ⟨A, c, hv, hn, hm, hr.mono fun k _ e => .inr e, fun i hi => ⟨(h.2.1 i hi).1.mono fun k _ e => .inl e, (h.2.1 i hi).2⟩⟩
theorem RdN.mono (h : RdN X w v is) (hx : ∀ k, k < w.heap.size → X k → Y k) : RdN Y w v is := by
  obtain ⟨A, c, h1, h2, h3, h4, h5⟩ := h
  exact ⟨A, c, h1, h2, h3, h4.mono hx, fun i hi => ⟨(h5 i hi).1.mono hx, (h5 i hi).2⟩⟩
theorem RdN.chg (h : RdN X w v is) (hc : Chg S w w') (hs : ∀ k, k < w.heap.size → X k → ¬ S k) : RdN X w' v is := by
  obtain ⟨A, c, h1, h2, h3, h4, h5⟩ := h
  exact ⟨A, c, h1, h2, h3, h4.chg hc hs, fun i hi => ⟨(h5 i hi).1.chg hc hs, (h5 i hi).2⟩⟩
theorem RdN.later (h : RdN X w v is) (hb : Below w.heap.size w w') : RdN X w' v is := h.chg (S := fun _ => False) (Chg.of_below hb) fun _ _ _ => id
theorem RdN.nil (X : Nat → Prop) (w : World) : RdN X w (.slice none 0 0) [] := ⟨none, 0, rfl, Nat.le_refl _, Nat.zero_le _, RdV.nil _ _ _, fun i hi => by simp at hi⟩
/-- One element, where the walk wants it. -/
theorem RdN.at_ {A : Option Addr} {c n : Nat} (h : RdN X w (.slice A n c) is) {j : Nat} {i : IV} (hj : is[j]? = some i) : ∃ b o, A = some ⟨b, o, none⟩ ∧ X b ∧ b < w.heap.size ∧ w.cell? ⟨b, o + j * 6, none⟩ = some (.int .i64 i.x.op) ∧ w.cell? ⟨b, o + j * 6 + 1, none⟩ = some (.int .u32 i.x.a) ∧ w.cell? ⟨b, o + j * 6 + 2, none⟩ = some (.int .u32 i.x.b) ∧ w.cell? ⟨b, o + j * 6 + 3, none⟩ = some (.int .u64 i.x.n) ∧ w.cell? ⟨b, o + j * 6 + 4, none⟩ = some (.slice i.A i.x.l.length i.c) ∧ w.cell? ⟨b, o + j * 6 + 5, none⟩ = some (.int .i64 i.x.t) := by
  obtain ⟨A', c', h1, h2, h3, h4, h5⟩ := h
  injection h1 with e1 e2 e3
  subst e1
  have hlt : j < is.length := (List.getElem?_eq_some_iff.1 hj).1
  obtain ⟨b, o, rfl, hX, hb, hc⟩ := h4.spot (by rw [flat_len]; omega)
  have g := fun k hk => flat_get is j i hj k hk
  refine ⟨b, o, rfl, hX, hb, ?_, ?_, ?_, ?_, ?_, ?_⟩
  · exact hc (j * 6) _ (by have := g 0 (by omega); rw [Nat.add_zero] at this; rw [this]; rfl)
  · rw [Nat.add_assoc]; exact hc _ _ (by rw [g 1 (by omega)]; rfl)
  · rw [Nat.add_assoc]; exact hc _ _ (by rw [g 2 (by omega)]; rfl)
  · rw [Nat.add_assoc]; exact hc _ _ (by rw [g 3 (by omega)]; rfl)
  · rw [Nat.add_assoc]; exact hc _ _ (by rw [g 4 (by omega)]; rfl)
  · rw [Nat.add_assoc]; exact hc _ _ (by rw [g 5 (by omega)]; rfl)
end

/-- The block that was just built for some instructions. -/
theorem rdV_ins (w : World) (is : List IV) : RdV (fun k => k = w.heap.size) (w.alloc (.cells (flat is).toArray 27)) (some ⟨w.heap.size, 0, none⟩) (flat is) := fun j u hu => by
  refine ⟨_, rfl, rfl, ?_⟩
  have h := (Own.new w 27 (flat is)).cell j
  rw [addPlain, Nat.zero_add, h, hu]
/-- append(s, x...), of instructions. -/
theorem wpList_appN {X Y : Nat → Prop} {ops : Array Oper} {rest : List Oper} {o : Oper} {a : Act} {Q : Exit → Act → World → Prop} {w : World} (hgd : o.guard = none) (s x : Operand)
    (ho : o.op = .call { callee := .builtin .append, args := #[s, x], argTypes := #[40, 40] }) (base : Nat) (v : Value) (is : List IV) (hs : a.eval s = v) (hown : OwnN X w base v is)
    (A : Option Addr) (m c : Nat) (js : List IV) (hx : a.eval x = .slice A m c) (hm : m = js.length) (hr : RdV Y w A (flat js)) (hj : ∀ i ∈ js, LabX X w i.x i.A i.c ∧ InsOk i.x) (hlen : is.length + m ≤ 1000000000) (hbase : base ≤ w.heap.size)
    (h : ∀ v' w', OwnN (fun k => X k ∧ k < w.heap.size) w' base v' (is ++ js) → Grew v w v' w' → wpList Try.prog ops Q rest (a.put o.dst v') w') : wpList Try.prog ops Q (o :: rest) a w := by
  subst hm
  refine wpList_appG under_ins ins_info rfl (by omega) hgd s x ho base v is.length _ hs hown.1 A js.length c (flat js) hx (flat_len js) hr (flat_one js) (by simp only [maxLen]; omega) (by omega) hbase fun v' w' h1 h2 h3 => ?_
  have hg := Grew.of_grown h2 h3
  refine h v' w' ⟨by rw [List.length_append, flat_app]; exact h1, fun i hi => ?_, fun k hk => ?_⟩ hg
  · have : LabX X w i.x i.A i.c ∧ InsOk i.x := by
      rcases List.mem_append.1 hi with h | h
      · exact hown.2.1 i h
      · exact hj i h
    refine ⟨?_, this.2⟩
    exact (this.1.mono (Y := fun k => X k ∧ k < w.heap.size) fun k hk hx => ⟨hx, hk⟩).chg hg.1 fun k _ hk e => hown.2.2 k e hk.1
  · rintro ⟨k1, k2⟩
    rcases hg.2 k hk with e | e
    · exact hown.2.2 k e k1
    · omega
/-- append(s, x): one instruction more, out of the block that was just built for it. -/
theorem wpList_appN1 {X : Nat → Prop} {ops : Array Oper} {rest : List Oper} {o : Oper} {a : Act} {Q : Exit → Act → World → Prop} {w : World} (hgd : o.guard = none) (s x : Operand)
    (ho : o.op = .call { callee := .builtin .append, args := #[s, x], argTypes := #[40, 40] }) (base : Nat) (v : Value) (is : List IV) (hs : a.eval s = v) (hown : OwnN X w base v is)
    (i : IV) (hi : LabX X w i.x i.A i.c) (hok : InsOk i.x) (hx : a.eval x = .slice (some ⟨w.heap.size, 0, none⟩) 1 1) (hlen : is.length + 1 ≤ 1000000000) (hbase : base ≤ w.heap.size)
    (h : ∀ v' w', OwnN (fun k => X k ∧ k < w.heap.size) w' base v' (is ++ [i]) → Grew v w v' w' → wpList Try.prog ops Q rest (a.put o.dst v') w') :
    wpList Try.prog ops Q (o :: rest) a (w.alloc (.cells #[.int .i64 i.x.op, .int .u32 i.x.a, .int .u32 i.x.b, .int .u64 i.x.n, .slice i.A i.x.l.length i.c, .int .i64 i.x.t] 27)) := by
  have hb : Below w.heap.size w (w.alloc (.cells #[.int .i64 i.x.op, .int .u32 i.x.a, .int .u32 i.x.b, .int .u64 i.x.n, .slice i.A i.x.l.length i.c, .int .i64 i.x.t] 27)) := (Below.refl _ _).alloc (Nat.le_refl _) _
  have hX : ∀ k, k < w.heap.size → X k → (X k ∧ k < w.heap.size) := fun k hk hx => ⟨hx, hk⟩
  have hown2 : OwnN (fun k => X k ∧ k < w.heap.size) w base v is := hown.mono hX fun k hk e => hown.2.2 k hk e.1
  refine wpList_appN hgd s x ho base v is hs (hown2.later hb) _ 1 1 [i] hx rfl (rdV_ins w [i]) (fun j hj => ?_) hlen (by simp; omega) fun v' w' h1 h2 => h v' w' (h1.mono (fun k _ hk => hk.1) fun k hk e => ?_) (h2.before hb fun k hk => owns_lt hown.1 hk)
  · simp only [List.mem_singleton] at hj; subst hj; exact ⟨(hi.mono hX).later hb, hok⟩
  · exact h1.2.2 k hk ⟨e, by simp; omega⟩
end Go.Proofs.Ytdngkbagfaeplaa
