/- Texts joined: Cuts, LebRead, LebRead2, Lists, Reader, Nums, ReqSrc, TypesSrc. -/
import Derived.Test.YtdngkbagfaeplaaJoin2
import Derived.Test.YtdngkbagfaeplaaJoin0
import Derived.Lib.LazyBuf
import Derived.Handy
import Derived.Lib.AppendStr
import Derived.StillTailTactics
import Derived.Deep.RegionWith
/- Pieces of a slice: one equation for each, whatever the capacity. -/
namespace Go.Proofs.Ytdngkbagfaeplaa
open Go.RowKit
set_option maxRecDepth 100000
set_option linter.unusedVariables false

/-- Where a piece lies. -/
def PieceOf (A A' : Option Addr) (k : Nat) (sz : Nat) : Prop := ∀ (X : Nat → Prop) (w : World) (vs : List Value), RdV X w A vs → RdV X w A' (vs.drop (k * sz))
theorem add_add' (a : Addr) (i j : Nat) : (a.add i).add j = a.add (i + j) := by
  unfold Addr.add
  by_cases hi : i = 0 <;> by_cases hj : j = 0 <;> simp [hi, hj, Nat.add_assoc]
theorem piece_of (A : Option Addr) (k cap sz : Nat) : ∀ (X : Nat → Prop) (w : World) (vs : List Value), vs.length ≤ cap * sz → RdV X w A vs → RdV X w (if cap = k then A else A.map (·.add (k * sz))) (vs.drop (k * sz)) := by
  intro X w vs hlen h
  by_cases hc : cap = k
  · subst hc
    rw [List.drop_of_length_le hlen]
    exact RdV.nil _ _ _
  · rw [if_neg hc]
    intro j u hu
    rw [List.getElem?_drop] at hu
    obtain ⟨ad, rfl, hX, hcell⟩ := h _ u hu
    exact ⟨ad.add (k * sz), rfl, by rw [addBlock]; exact hX, by rw [add_add']; exact hcell⟩

theorem elem_of {t e : TypeId} (hu : Try.prog.underlying t = some (.slice e)) : Try.prog.elem t = e := by simp [Program.elem, hu]
section
variable {t e : TypeId} {sz : Nat} (hu : Try.prog.underlying t = some (.slice e)) (hinf : (Try.prog.info? e).map (·.size) = some sz)
include hu hinf
theorem run_sz (W : World) : (sizeOf (Try.prog.elem t)).run Try.prog W = .ok sz W := by
  rw [elem_of hu]
  obtain ⟨i, hi, hs⟩ := Option.map_eq_some_iff.1 hinf
  simp [sizeOf, typeInfo, hi, hs]
/-- s[l:h] -/
theorem cut_lh (A : Option Addr) (n cap : Nat) (li hi : Int) (l h : Nat) (m : Nat) (hl : li = l) (hh : hi = h) (hm : m = h - l) (h1 : l ≤ h) (h2 : h ≤ cap) :
    ∃ A' c', (∀ W, (Instr.sliceAt t (.slice A n cap) (some (.int .i64 li)) (some (.int .i64 hi)) none).run Try.prog W = .ok (.slice A' m c') W) ∧ c' = cap - l ∧
      ∀ (X : Nat → Prop) (w : World) (vs : List Value), vs.length ≤ cap * sz → RdV X w A vs → RdV X w A' ((vs.drop (l * sz)).take (m * sz)) := by
  subst hl; subst hh; subst hm
  have hu' : Try.prog.underlying t = some (.slice (Try.prog.elem t)) := by rw [elem_of hu]; exact hu
  refine ⟨if cap = l then A else A.map (·.add (l * sz)), cap - l, fun W => ?_, rfl, fun X w vs hv hr => (piece_of A l cap sz X w vs hv hr).take _⟩
  rw [run_sliceAt_slice W t _ _ _ _ hu', run_slice_lh W t A n cap hu' .i64 .i64 l h (by omega) (by omega) (by omega), run_sz hu hinf]
  simp [Result.andThen, sliced]
/-- s[l:] -/
theorem cut_l (A : Option Addr) (n cap : Nat) (li : Int) (l : Nat) (m : Nat) (hl : li = l) (hm : m = n - l) (h1 : l ≤ n) (h2 : n ≤ cap) :
    ∃ A' c', (∀ W, (Instr.sliceAt t (.slice A n cap) (some (.int .i64 li)) none none).run Try.prog W = .ok (.slice A' m c') W) ∧ c' = cap - l ∧
      ∀ (X : Nat → Prop) (w : World) (vs : List Value), vs.length ≤ cap * sz → RdV X w A vs → RdV X w A' (vs.drop (l * sz)) := by
  subst hl; subst hm
  have hu' : Try.prog.underlying t = some (.slice (Try.prog.elem t)) := by rw [elem_of hu]; exact hu
  refine ⟨if cap = l then A else A.map (·.add (l * sz)), cap - l, fun W => ?_, rfl, fun X w vs hv hr => piece_of A l cap sz X w vs hv hr⟩
  rw [run_sliceAt_slice W t _ _ _ _ hu', run_slice_l W t A n cap hu' .i64 l (by omega) (by omega), run_sz hu hinf]
  simp [Result.andThen, sliced]
/-- s[l:], by a number of whatever kind -/
theorem cut_lK (K : IntKind) (A : Option Addr) (n cap : Nat) (li : Int) (l : Nat) (m : Nat) (hl : li = l) (hm : m = n - l) (h1 : l ≤ n) (h2 : n ≤ cap) :
    ∃ A' c', (∀ W, (Instr.sliceAt t (.slice A n cap) (some (.int K li)) none none).run Try.prog W = .ok (.slice A' m c') W) ∧ c' = cap - l ∧
      ∀ (X : Nat → Prop) (w : World) (vs : List Value), vs.length ≤ cap * sz → RdV X w A vs → RdV X w A' (vs.drop (l * sz)) := by
  subst hl; subst hm
  have hu' : Try.prog.underlying t = some (.slice (Try.prog.elem t)) := by rw [elem_of hu]; exact hu
  refine ⟨if cap = l then A else A.map (·.add (l * sz)), cap - l, fun W => ?_, rfl, fun X w vs hv hr => piece_of A l cap sz X w vs hv hr⟩
  rw [run_sliceAt_slice W t _ _ _ _ hu', run_slice_l W t A n cap hu' K l (by omega) (by omega), run_sz hu hinf]
  simp [Result.andThen, sliced]
/-- s[:h] -/
theorem cut_h (A : Option Addr) (n cap : Nat) (hi : Int) (h : Nat) (hh : hi = h) (h2 : h ≤ cap) :
    ∃ A' c', (∀ W, (Instr.sliceAt t (.slice A n cap) none (some (.int .i64 hi)) none).run Try.prog W = .ok (.slice A' h c') W) ∧ c' = cap ∧
      ∀ (X : Nat → Prop) (w : World) (vs : List Value), vs.length ≤ cap * sz → RdV X w A vs → RdV X w A' (vs.take (h * sz)) := by
  subst hh
  have hu' : Try.prog.underlying t = some (.slice (Try.prog.elem t)) := by rw [elem_of hu]; exact hu
  refine ⟨if cap = 0 then A else A.map (·.add (0 * sz)), cap, fun W => ?_, rfl, fun X w vs hv hr => ?_⟩
  · rw [run_sliceAt_slice W t _ _ _ _ hu', run_slice_h W t A n cap hu' .i64 h (by omega) (by omega), run_sz hu hinf]
    simp [Result.andThen, sliced]
  · have := (piece_of A 0 cap sz X w vs hv hr).take (h * sz)
    simpa using this
end

/-- s[l:h] of bytes -/
theorem cutB_lh (A : Option Addr) (n cap : Nat) (li hi : Int) (l h : Nat) (m : Nat) (hl : li = l) (hh : hi = h) (hm : m = h - l) (h1 : l ≤ h) (h2 : h ≤ cap) :
    ∃ A' c', (∀ W, (Instr.sliceAt 44 (.slice A n cap) (some (.int .i64 li)) (some (.int .i64 hi)) none).run Try.prog W = .ok (.slice A' m c') W) ∧ c' = cap - l ∧
      ∀ (X : Nat → Prop) (w : World) (xs : List Int), xs.length ≤ cap → RdX X w A xs → RdX X w A' ((xs.drop l).take m) := by
  obtain ⟨A', c', h1, h2, h3⟩ := cut_lh under_bytes byte_size A n cap li hi l h m hl hh hm h1 h2
  refine ⟨A', c', h1, h2, fun X w xs hx hr => ⟨IsBytes.take (IsBytes.drop hr.1 _) _, ?_⟩⟩
  have := h3 X w _ (by simpa using hx) hr.2
  simpa [List.map_take, List.map_drop] using this
theorem cutB_l (A : Option Addr) (n cap : Nat) (li : Int) (l : Nat) (m : Nat) (hl : li = l) (hm : m = n - l) (h1 : l ≤ n) (h2 : n ≤ cap) :
    ∃ A' c', (∀ W, (Instr.sliceAt 44 (.slice A n cap) (some (.int .i64 li)) none none).run Try.prog W = .ok (.slice A' m c') W) ∧ c' = cap - l ∧
      ∀ (X : Nat → Prop) (w : World) (xs : List Int), xs.length ≤ cap → RdX X w A xs → RdX X w A' (xs.drop l) := by
  obtain ⟨A', c', h1, h2, h3⟩ := cut_l under_bytes byte_size A n cap li l m hl hm h1 h2
  refine ⟨A', c', h1, h2, fun X w xs hx hr => ⟨IsBytes.drop hr.1 _, ?_⟩⟩
  have := h3 X w _ (by simpa using hx) hr.2
  simpa [List.map_drop] using this
theorem cutB_lK (K : IntKind) (A : Option Addr) (n cap : Nat) (li : Int) (l : Nat) (m : Nat) (hl : li = l) (hm : m = n - l) (h1 : l ≤ n) (h2 : n ≤ cap) :
    ∃ A' c', (∀ W, (Instr.sliceAt 44 (.slice A n cap) (some (.int K li)) none none).run Try.prog W = .ok (.slice A' m c') W) ∧ c' = cap - l ∧
      ∀ (X : Nat → Prop) (w : World) (xs : List Int), xs.length ≤ cap → RdX X w A xs → RdX X w A' (xs.drop l) := by
  obtain ⟨A', c', h1, h2, h3⟩ := cut_lK under_bytes byte_size K A n cap li l m hl hm h1 h2
  refine ⟨A', c', h1, h2, fun X w xs hx hr => ⟨IsBytes.drop hr.1 _, ?_⟩⟩
  have := h3 X w _ (by simpa using hx) hr.2
  simpa [List.map_drop] using this
theorem cutB_h (A : Option Addr) (n cap : Nat) (hi : Int) (h : Nat) (hh : hi = h) (h2 : h ≤ cap) :
    ∃ A' c', (∀ W, (Instr.sliceAt 44 (.slice A n cap) none (some (.int .i64 hi)) none).run Try.prog W = .ok (.slice A' h c') W) ∧ c' = cap ∧
      ∀ (X : Nat → Prop) (w : World) (xs : List Int), xs.length ≤ cap → RdX X w A xs → RdX X w A' (xs.take h) := by
  obtain ⟨A', c', h1, h2, h3⟩ := cut_h under_bytes byte_size A n cap hi h hh h2
  refine ⟨A', c', h1, h2, fun X w xs hx hr => ⟨IsBytes.take hr.1 _, ?_⟩⟩
  have := h3 X w _ (by simpa using hx) hr.2
  simpa [List.map_take] using this
end Go.Proofs.Ytdngkbagfaeplaa

/- What leb's readers come to, over the given translation: each function's contract. -/
namespace Go.Proofs.Ytdngkbagfaeplaa
open Go.RowKit
set_option maxRecDepth 100000
set_option linter.unusedVariables false

theorem alike_any (v : Int) (w : World) :
    Calls Try.prog 67 #[.int .i64 v] w fun e w' => e = .returned (.bool (v == 0 || v == -1)) ∧ w = w' := by
  go_enter Try.func67, Try.ntmps67
  go_wp2
  all_goals go_ret
  all_goals exact ⟨by first | rfl | simp [*], rfl⟩

/-- What 'take' hands back. -/
def three (a b c : IntKind) (r : Int × Int × Int) : Ending := .returned (.tuple #[.int a r.1, .int b r.2.1, .int c r.2.2])

end Go.Proofs.Ytdngkbagfaeplaa

/- What leb's signed readers and their like come to. -/
namespace Go.Proofs.Ytdngkbagfaeplaa
open Go.RowKit
set_option maxRecDepth 100000
set_option linter.unusedVariables false

/-- The number alone turned. -/
def on1 (f : Int → Int) (r : Int × Int × Int) : Int × Int × Int := (f r.1, r.2.1, r.2.2)

end Go.Proofs.Ytdngkbagfaeplaa

/- Lists of lists of bytes in memory. No function of the program but bytes.Clone. -/
namespace Go.Proofs.Ytdngkbagfaeplaa
open Go.RowKit
set_option maxRecDepth 100000
set_option linter.unusedVariables false

theorem under_lists : Try.prog.underlying 81 = some (.slice 44) := Try.underlying81
theorem bytes_info : (Try.prog.info? 44).map (fun i => (i.zero, i.size, i.bytes)) = some (some (.slice none 0 0), 1, 24) := by kernel_rfl

def All2 {α : Type} (P : Value → α → Prop) (vs : List Value) (ls : List α) : Prop := vs.length = ls.length ∧ ∀ (j : Nat) (u : Value) (x : α), vs[j]? = some u → ls[j]? = some x → P u x
section
variable {α : Type} {P Q : Value → α → Prop} {vs us : List Value} {ls ms : List α}
theorem All2.nil : All2 P [] ([] : List α) := ⟨rfl, fun j u x h => by simp at h⟩
theorem All2.mono (h : All2 P vs ls) (hp : ∀ u x, P u x → Q u x) : All2 Q vs ls := ⟨h.1, fun j u x hu hx => hp u x (h.2 j u x hu hx)⟩
theorem All2.monoMem (h : All2 P vs ls) (hp : ∀ u x, u ∈ vs → P u x → Q u x) : All2 Q vs ls := ⟨h.1, fun j u x hu hx => hp u x (List.mem_of_getElem? hu) (h.2 j u x hu hx)⟩
theorem All2.app (h : All2 P vs ls) (k : All2 P us ms) : All2 P (vs ++ us) (ls ++ ms) := by
  refine ⟨by simp [h.1, k.1], fun j u x hu hx => ?_⟩
  by_cases hj : j < vs.length
  · rw [List.getElem?_append_left hj] at hu
    rw [List.getElem?_append_left (by rw [← h.1]; exact hj)] at hx
    exact h.2 j u x hu hx
  · rw [List.getElem?_append_right (by omega)] at hu
    rw [List.getElem?_append_right (by rw [← h.1]; omega), ← h.1] at hx
    exact k.2 _ u x hu hx
theorem All2.one {u : Value} {x : α} (h : P u x) : All2 P [u] [x] := ⟨rfl, fun j v y hv hy => by
  cases j with
  | zero => simp at hv hy; subst hv; subst hy; exact h
  | succ j => simp at hv⟩
theorem All2.get (h : All2 P vs ls) {j : Nat} (hj : j < ls.length) : ∃ u x, vs[j]? = some u ∧ ls[j]? = some x ∧ P u x := by
  have h1 : vs[j]? = some (vs[j]'(by rw [h.1]; exact hj)) := List.getElem?_eq_getElem _
  have h2 : ls[j]? = some ls[j] := List.getElem?_eq_getElem hj
  exact ⟨_, _, h1, h2, h.2 j _ _ h1 h2⟩
end

/-- A list of lists of bytes in rows of the call's own, in blocks of X. -/
def OwnL (X : Nat → Prop) (w : World) (v : Value) (ls : List (List Int)) : Prop :=
  ∃ vs, w.ownsRow 0 44 1 v vs.length vs ∧ (∀ g, v.ownBlock = some g → X g) ∧ All2 (fun u l => OwnB w 0 u l ∧ IsBytes l ∧ ∀ g, u.ownBlock = some g → X g) vs ls
/-- A list of lists of bytes that is read. -/
def RdL (X : Nat → Prop) (w : World) (v : Value) (ls : List (List Int)) : Prop :=
  ∃ A c vs, v = .slice A ls.length c ∧ ls.length ≤ c ∧ c ≤ maxLen ∧ RdV X w A vs ∧ All2 (fun u l => ∃ B d, u = .slice B l.length d ∧ l.length ≤ d ∧ d ≤ maxLen ∧ RdX X w B l) vs ls

section
variable {X Y : Nat → Prop} {w w' : World} {v : Value} {ls : List (List Int)}
theorem OwnL.nil (X : Nat → Prop) (w : World) : OwnL X w (.slice none 0 0) [] := ⟨[], World.ownsRow_nil w 0 _ _, fun g h => by simp [Value.ownBlock] at h, All2.nil⟩
theorem OwnL.mono (h : OwnL X w v ls) (hx : ∀ k, k < w.heap.size → X k → Y k) : OwnL Y w v ls := by
  obtain ⟨vs, h1, h2, h3⟩ := h
  exact ⟨vs, h1, fun g hg => hx g (owns_lt h1 hg) (h2 g hg), h3.mono fun u l ⟨a, b, c⟩ => ⟨a, b, fun g hg => hx g (owns_lt a hg) (c g hg)⟩⟩
theorem OwnL.chg {S : Nat → Prop} (h : OwnL X w v ls) (hc : Chg S w w') (hs : ∀ k, k < w.heap.size → X k → ¬ S k) : OwnL X w' v ls := by
  obtain ⟨vs, h1, h2, h3⟩ := h
  exact ⟨vs, owns_chg h1 hc fun g hg => hs g (owns_lt h1 hg) (h2 g hg), h2, h3.mono fun u l ⟨a, b, c⟩ => ⟨OwnB.chg a hc fun g hg => hs g (owns_lt a hg) (c g hg), b, c⟩⟩
theorem OwnL.later (h : OwnL X w v ls) (hc : Below w.heap.size w w') : OwnL X w' v ls := h.chg (S := fun _ => False) (Chg.of_below hc) fun _ _ _ => id
theorem OwnL.rd (h : OwnL X w v ls) : RdL X w v ls := by
  obtain ⟨vs, h1, h2, h3⟩ := h
  obtain ⟨A, c, hv, hn, hm, hr⟩ := RdV.of_own h1
  refine ⟨A, c, vs, by rw [hv, h3.1], by rw [← h3.1]; exact hn, hm, hr.mono fun k _ hk => h2 k hk, h3.mono fun u l ⟨a, b, d⟩ => ?_⟩
  obtain ⟨B, e, hu, hl, hm, hx⟩ := a.rdX b
  exact ⟨B, e, hu, hl, hm, hx.mono fun k _ hk => d k hk⟩
theorem OwnL.ne {g : Nat} {t : TypeId} {L : List Value} (h : OwnL X w v ls) (hg : Own w g t L) (hne : 44 ≠ t) : v.ownBlock ≠ some g := by
  obtain ⟨vs, h1, _⟩ := h
  exact owns_ne h1 hg hne
theorem OwnL.neB {base : Nat} {u : Value} {l : List Int} (h : OwnL X w v ls) (hu : OwnB w base u l) {k : Nat} (hk : u.ownBlock = some k) : v.ownBlock ≠ some k := by
  obtain ⟨vs, h1, _⟩ := h
  exact owns_ne2 hu h1 (by decide) hk
theorem RdL.mono (h : RdL X w v ls) (hx : ∀ k, k < w.heap.size → X k → Y k) : RdL Y w v ls := by
  obtain ⟨A, c, vs, h1, h2, h3, h4, h5⟩ := h
  exact ⟨A, c, vs, h1, h2, h3, h4.mono hx, h5.mono fun u l ⟨B, d, a, b, e, f⟩ => ⟨B, d, a, b, e, f.mono hx⟩⟩
theorem RdL.chg {S : Nat → Prop} (h : RdL X w v ls) (hc : Chg S w w') (hs : ∀ k, k < w.heap.size → X k → ¬ S k) : RdL X w' v ls := by
  obtain ⟨A, c, vs, h1, h2, h3, h4, h5⟩ := h
  exact ⟨A, c, vs, h1, h2, h3, h4.chg hc hs, h5.mono fun u l ⟨B, d, a, b, e, f⟩ => ⟨B, d, a, b, e, f.chg hc hs⟩⟩
theorem RdL.later (h : RdL X w v ls) (hc : Below w.heap.size w w') : RdL X w' v ls := h.chg (S := fun _ => False) (Chg.of_below hc) fun _ _ _ => id
theorem RdL.drewN (h : RdL X w v ls) (n : Nat) : RdL X (w.drewN n) v ls := h.later (below_drewN' (Below.refl _ _) n)
theorem OwnL.drewN (h : OwnL X w v ls) (n : Nat) : OwnL X (w.drewN n) v ls := h.later (below_drewN' (Below.refl _ _) n)
/-- One element, where the walk wants it. -/
theorem RdL.at_ {A : Option Addr} {c n : Nat} (h : RdL X w (.slice A n c) ls) {j : Nat} (hj : j < ls.length) : ∃ b o B d, A = some ⟨b, o, none⟩ ∧ X b ∧ b < w.heap.size ∧ w.cell? ⟨b, o + j, none⟩ = some (.slice B (ls.getD j []).length d) ∧ (ls.getD j []).length ≤ d ∧ d ≤ maxLen ∧ RdX X w B (ls.getD j []) := by
  obtain ⟨A', c', vs, h1, h2, h3, h4, h5⟩ := h
  injection h1 with e1 e2 e3
  subst e1
  obtain ⟨u, x, hu, hx, B, d, rfl, hl, hm, hr⟩ := h5.get hj
  obtain ⟨b, o, rfl, hX, hb, hc⟩ := h4.spot (by rw [h5.1]; omega)
  have : ls.getD j [] = x := by rw [List.getD_eq_getElem?_getD, hx]; rfl
  rw [this]
  exact ⟨b, o, B, d, rfl, hX, hb, hc j _ hu, hl, hm, hr⟩
end

/-- append(s, x) of lists: one list more. -/
theorem wpList_appL1 {X : Nat → Prop} {ops : Array Oper} {rest : List Oper} {o : Oper} {a : Act} {Q : Exit → Act → World → Prop} {w : World} (hgd : o.guard = none) (s x : Operand)
    (ho : o.op = .call { callee := .builtin .append, args := #[s, x], argTypes := #[81, 81] }) (v : Value) (ls : List (List Int)) (hs : a.eval s = v) (hown : OwnL X w v ls)
    (u : Value) (l : List Int) (hu : OwnB w 0 u l) (hl : IsBytes l) (huX : ∀ g, u.ownBlock = some g → X g) (hX : ∀ k, w.heap.size ≤ k → X k)
    (hx : a.eval x = .slice (some ⟨w.heap.size, 0, none⟩) 1 1) (hlen : ls.length + 1 ≤ 1000000000)
    (h : ∀ v' w', OwnL X w' v' (ls ++ [l]) → Chg (fun k => some k = v.ownBlock) w w' → wpList Try.prog ops Q rest (a.put o.dst v') w') : wpList Try.prog ops Q (o :: rest) a (w.alloc (.cells #[u] 44)) := by
  obtain ⟨vs, h1, h2, h3⟩ := hown
  have hsl : ∃ A c, u = .slice A l.length c := by obtain ⟨A, c, e, _⟩ := RdV.of_own hu; exact ⟨A, c, e⟩
  obtain ⟨A, c, rfl⟩ := hsl
  have hr : RdV (fun _ => True) (w.alloc (.cells #[.slice A l.length c] 44)) (some ⟨w.heap.size, 0, none⟩) [.slice A l.length c] := fun j y hy => by
    cases j with
    | zero => simp at hy; subst hy; refine ⟨_, rfl, trivial, ?_⟩; rw [addPlain, cell_of_row _ _ _ _ _ _ (heap_alloc_new w _)]; rfl
    | succ j => simp at hy
  have hlv : vs.length + 1 ≤ 1000000000 := by rw [h3.1]; exact hlen
  refine wpList_appG under_lists bytes_info rfl (by omega) hgd s x ho 0 v vs.length vs hs (h1.alloc _) _ 1 1 [.slice A l.length c] hx rfl hr (by simp [Value.oneCell']) (by simp only [maxLen]; omega) (by omega) (by omega) fun v' w' g1 g2 g3 => ?_
  have hc1 : Chg (fun k => some k = v.ownBlock) (w.alloc (.cells #[.slice A l.length c] 44)) w' := Chg.of_grown g2
  have hc : Chg (fun k => some k = v.ownBlock) w w' := (Chg.alloc (S := fun k => some k = v.ownBlock) w (.cells #[.slice A l.length c] 44)).trans hc1 fun _ _ e => e
  refine h v' w' ⟨vs ++ [.slice A l.length c], by simpa using g1, fun g hg => ?_, All2.app ?_ (All2.one ⟨OwnB.chg hu hc fun g hg e => owns_ne2 hu h1 (by decide) hg e.symm, hl, huX⟩)⟩ hc
  · rcases g3 with g3 | g3
    · exact h2 g (by rw [← g3]; exact hg)
    · rw [g3] at hg; injection hg with hg; subst hg; exact hX _ (by simp)
  · exact h3.mono fun y m ⟨p, q, r⟩ => ⟨OwnB.chg p hc fun g hg e => owns_ne2 p h1 (by decide) hg e.symm, q, r⟩

/-- append(s, x...) of lists: the elements of another list, which stay where they are. -/
theorem wpList_appLL {X : Nat → Prop} {ops : Array Oper} {rest : List Oper} {o : Oper} {a : Act} {Q : Exit → Act → World → Prop} {w : World} (hgd : o.guard = none) (s x : Operand)
    (ho : o.op = .call { callee := .builtin .append, args := #[s, x], argTypes := #[81, 81] }) (v : Value) (ls ms : List (List Int)) (hs : a.eval s = v) (hown : OwnL X w v ls)
    (u : Value) (hx : a.eval x = u) (hu : OwnL X w u ms) (hX : ∀ k, w.heap.size ≤ k → X k) (hlen : ls.length + ms.length ≤ 1000000000)
    (h : ∀ v' w', OwnL X w' v' (ls ++ ms) → Chg (fun k => some k = v.ownBlock) w w' → wpList Try.prog ops Q rest (a.put o.dst v') w') : wpList Try.prog ops Q (o :: rest) a w := by
  obtain ⟨vs, h1, h2, h3⟩ := hown
  obtain ⟨us, k1, k2, k3⟩ := hu
  obtain ⟨A, c, rfl, hn, hm, hr⟩ := RdV.of_own k1
  have hlv : vs.length + us.length ≤ 1000000000 := by rw [h3.1, k3.1]; exact hlen
  have h1c : ∀ y ∈ us, y.oneCell' = true := fun y hy => by
    obtain ⟨j, hj⟩ := List.mem_iff_getElem?.1 hy
    have hjl : j < us.length := (List.getElem?_eq_some_iff.1 hj).1
    obtain ⟨y', m, hy', _, p, _⟩ := k3.get (j := j) (by rw [← k3.1]; exact hjl)
    rw [hj] at hy'; injection hy' with hy'; subst hy'
    obtain ⟨_, _, e, _⟩ := RdV.of_own p
    rw [e]; rfl
  refine wpList_appG under_lists bytes_info rfl (by omega) hgd s x ho 0 v vs.length vs hs h1 A us.length c us hx (by simp) hr h1c (by simp only [maxLen]; omega) (by omega) (by omega) fun v' w' g1 g2 g3 => ?_
  have hc : Chg (fun k => some k = v.ownBlock) w w' := Chg.of_grown g2
  refine h v' w' ⟨vs ++ us, by simpa using g1, fun g hg => ?_, All2.app (h3.mono fun y m ⟨p, q, r⟩ => ⟨OwnB.chg p hc fun g hg e => owns_ne2 p h1 (by decide) hg e.symm, q, r⟩) (k3.mono fun y m ⟨p, q, r⟩ => ⟨OwnB.chg p hc fun g hg e => owns_ne2 p h1 (by decide) hg e.symm, q, r⟩)⟩ hc
  rcases g3 with g3 | g3
  · exact h2 g (by rw [← g3]; exact hg)
  · rw [g3] at hg; injection hg with hg; subst hg; exact hX _ (Nat.le_refl _)

attribute [local go_sem] Lib.run_eql_slice_nil
theorem clone_any (A : Option Addr) (l : List Int) (n c : Nat) (w : World) (h : Rd w w.heap.size A l) (hn : n = l.length) (hl : n ≤ 1000000000) (h0 : True := trivial) :
    Calls Try.prog 52 #[.slice A n c] w fun e w' => ∃ v, e = .returned v ∧ OwnB w' w.heap.size v l ∧ Below w.heap.size w w' := by
  rcases A with _ | ad
  · clear h0
    have : l = [] := by
      cases l with
      | nil => rfl
      | cons z l => obtain ⟨_, e, _⟩ := h.2 0 (by simp); cases e
    subst this
    subst hn
    go_enter Try.func52, Try.ntmps52
    go_wp2
    go_ret
    exact ⟨_, rfl, OwnB.nil _ _, Below.refl _ _⟩
  · have HR := Lib.hid h
    have HN := Lib.hid hn
    clear h hn h0
    go_enter Try.func52, Try.ntmps52
    have hb : Below w.heap.size w (w.alloc (.cells #[] 5)) := (Below.refl _ _).alloc (Nat.le_refl _) _
    go_wp2_with (at_builtin; refine wpList_app rfl (.tmp 5) (.tmp 6) rfl w.heap.size _ [] rfl (ownB_lit0 w) (some ad) n c l rfl HN.out (HR.out.later hb) (by simp; omega) (by simp) ?_; intro v1 w1 hv1 hw1; have HV := Lib.hid (And.intro hv1 (hb.trans hw1)); clear hv1 hw1)
    go_wp2
    go_ret
    exact ⟨_, rfl, HV.out⟩
end Go.Proofs.Ytdngkbagfaeplaa

/- Package reader: what its calls come to. -/
namespace Go.Proofs.Ytdngkbagfaeplaa
open Go.RowKit
set_option maxRecDepth 100000
set_option linter.unusedVariables false

/-- How many bytes there were, and what stands behind the Reader. -/
abbrev RTl := Nat × List Value
/-- A Reader at the front of block g: what it has still to read, or what it met. -/
def RdrAt (w : World) (g : Nat) (t : TypeId) (tl : RTl) (s : St) : Prop := match s with
  | .ok l => ∃ A c r, Own w g t (.slice A l.length c :: .int .i64 r :: .int .i64 0 :: tl.2) ∧ RdX (· < g) w A l ∧ l.length ≤ c ∧ c ≤ maxLen ∧ l.length ≤ 1000000 ∧ r = (tl.1 : Int) - l.length ∧ l.length ≤ tl.1 ∧ tl.1 ≤ 1000000
  | .error e => Own w g t (.slice none 0 0 :: .int .i64 0 :: .int .i64 e :: tl.2) ∧ 0 < e ∧ e ≤ 100
theorem RdrAt.chg {S : Nat → Prop} {w w' : World} {g : Nat} {t : TypeId} {tl : RTl} {s : St} (h : RdrAt w g t tl s) (hc : Chg S w w') (hs : ∀ k, k ≤ g → ¬ S k) : RdrAt w' g t tl s := by
  cases s with
  | ok l => obtain ⟨A, c, r, h1, h2, h5⟩ := h; exact ⟨A, c, r, h1.chg hc (hs g (Nat.le_refl _)), h2.chg hc fun k _ hk => hs k (by omega), h5⟩
  | error e => exact ⟨h.1.chg hc (hs g (Nat.le_refl _)), h.2⟩
theorem RdrAt.later {w w' : World} {g : Nat} {t : TypeId} {tl : RTl} {s : St} (h : RdrAt w g t tl s) (hc : Below w.heap.size w w') : RdrAt w' g t tl s := h.chg (S := fun _ => False) (Chg.of_below hc) fun _ _ => id
theorem RdrAt.lt {w : World} {g : Nat} {t : TypeId} {tl : RTl} {s : St} (h : RdrAt w g t tl s) : g < w.heap.size := by
  cases s with
  | ok l => obtain ⟨A, c, r, h1, _⟩ := h; exact h1.lt
  | error e => exact h.1.lt

theorem chgSet (w : World) (g i : Nat) (u : Value) : Chg (fun k => k = g) w (w.setCell ⟨g, i, none⟩ u) := Chg.setCell w ⟨g, i, none⟩ u
theorem own_cells2 {w : World} {g : Nat} {t : TypeId} {a b : Value} {tl : List Value} (h : Own w g t (a :: b :: tl)) : w.cell? ⟨g, 0, none⟩ = some a ∧ w.cell? ⟨g, 1, none⟩ = some b ∧ w.frozen? ⟨g, 0, none⟩ = false ∧ w.frozen? ⟨g, 1, none⟩ = false :=
  ⟨h.cell 0, h.cell 1, h.frozen 0, h.frozen 1⟩
theorem own_cells3 {w : World} {g : Nat} {t : TypeId} {a b c : Value} {tl : List Value} (h : Own w g t (a :: b :: c :: tl)) : w.cell? ⟨g, 0, none⟩ = some a ∧ w.cell? ⟨g, 1, none⟩ = some b ∧ w.cell? ⟨g, 2, none⟩ = some c ∧ w.frozen? ⟨g, 0, none⟩ = false ∧ w.frozen? ⟨g, 1, none⟩ = false ∧ w.frozen? ⟨g, 2, none⟩ = false :=
  ⟨h.cell 0, h.cell 1, h.cell 2, h.frozen 0, h.frozen 1, h.frozen 2⟩

def FailPost (g : Nat) (t : TypeId) (tl : RTl) (s : St) (w : World) (e : Ending) (w' : World) : Prop := (∃ u, e = .returned u) ∧ RdrAt w' g t tl s ∧ Chg (fun k => k = g) w w'
/-- How many bytes were read. -/
def readS (n : Nat) (s : St) : Int := match s with
  | .error _ => 0
  | .ok l => (n : Int) - l.length
def errS (s : St) : Int := match s with
  | .error e => e
  | .ok _ => 0
/-- A number that was read. -/
def RPost (K : IntKind) (hi : Int) (p : PR Int) (g : Nat) (t : TypeId) (tl : RTl) (s : St) (w : World) (e : Ending) (w' : World) : Prop :=
  ∃ x, e = .returned (.int K x) ∧ 0 ≤ x ∧ x ≤ hi ∧ RdrAt w' g t tl (nx p s) ∧ (∀ a l', bd s p = .ok (a, l') → x = a) ∧ Chg (fun k => k = g) w w'

/-- Bytes that were read, into new memory. -/
def BPost (p : PR (List Int)) (g : Nat) (t : TypeId) (tl : RTl) (s : St) (w : World) (e : Ending) (w' : World) : Prop :=
  ∃ v y, e = .returned v ∧ OwnB w' w.heap.size v y ∧ IsBytes y ∧ RdrAt w' g t tl (nx p s) ∧ (∀ a l', bd s p = .ok (a, l') → y = a) ∧ Chg (fun k => k = g) w w' ∧ y.length ≤ 1000000

end Go.Proofs.Ytdngkbagfaeplaa

/- Slices of numbers of 64 bits, and strings that are appended: what the walks lean on. No function of the program. -/
namespace Go.Proofs.Ytdngkbagfaeplaa
open Go.RowKit
set_option maxRecDepth 100000
set_option linter.unusedVariables false

theorem num_info : (Try.prog.info? 24).map (fun i => (i.zero, i.size, i.bytes)) = some (some (.int .u64 0), 1, 8) := by kernel_rfl
theorem num_size : (Try.prog.info? 24).map (·.size) = some 1 := by kernel_rfl
def IsU64 (l : List Int) : Prop := ∀ z ∈ l, 0 ≤ z ∧ z < 18446744073709551616
theorem IsU64.nil : IsU64 [] := fun z hz => by simp at hz
theorem IsU64.app {a b : List Int} (ha : IsU64 a) (hb : IsU64 b) : IsU64 (a ++ b) := fun z hz => by
  rcases List.mem_append.1 hz with h | h
  · exact ha z h
  · exact hb z h
theorem IsU64.one {z : Int} (h0 : 0 ≤ z) (h1 : z < 18446744073709551616) : IsU64 [z] := fun y hy => by simp at hy; subst hy; exact ⟨h0, h1⟩
/-- A slice of numbers in a block of the call's own. -/
def OwnU (w : World) (base : Nat) (v : Value) (l : List Int) : Prop := w.ownsRow base 24 1 v l.length (l.map (Value.int .u64))
/-- Numbers that are read, in blocks of X. -/
def RdU (X : Nat → Prop) (w : World) (A : Option Addr) (l : List Int) : Prop := IsU64 l ∧ RdV X w A (l.map (Value.int .u64))
section
variable {X : Nat → Prop} {w w' : World} {A : Option Addr} {l : List Int} {B : Nat}
theorem RdU.chg {S : Nat → Prop} (h : RdU X w A l) (hc : Chg S w w') (hs : ∀ k, k < w.heap.size → X k → ¬ S k) : RdU X w' A l := ⟨h.1, h.2.chg hc hs⟩
theorem RdU.drewN (h : RdU X w A l) (n : Nat) : RdU X (w.drewN n) A l := ⟨h.1, h.2.drewN n⟩
theorem RdU.later (h : RdU X w A l) (hc : Below w.heap.size w w') : RdU X w' A l := ⟨h.1, h.2.later hc⟩
theorem RdU.mono {Y : Nat → Prop} (h : RdU X w A l) (hx : ∀ k, k < w.heap.size → X k → Y k) : RdU Y w A l := ⟨h.1, h.2.mono hx⟩
theorem RdU.nil (X : Nat → Prop) (w : World) (A : Option Addr) : RdU X w A [] := ⟨IsU64.nil, RdV.nil _ _ _⟩
theorem map_u64_get {j : Nat} (hj : j < l.length) : (l.map (Value.int .u64))[j]? = some (.int .u64 (l.getD j 0)) := by
  simp [List.getElem?_eq_getElem hj, List.getD_eq_getElem?_getD]
theorem RdU.at_ (h : RdU X w A l) {j : Nat} (hj : j < l.length) : ∃ b o, A = some ⟨b, o, none⟩ ∧ w.cell? ⟨b, o + j, none⟩ = some (.int .u64 (l.getD j 0)) ∧ 0 ≤ l.getD j 0 ∧ l.getD j 0 < 18446744073709551616 := by
  obtain ⟨b, o, hA, hX, hlt, hc⟩ := h.2.spot (by simp; omega)
  refine ⟨b, o, hA, hc j _ (map_u64_get hj), h.1 _ ?_⟩
  rw [List.getD_eq_getElem?_getD, List.getElem?_eq_getElem hj]; exact List.getElem_mem hj
end
theorem OwnU.nil (w : World) (base : Nat) : OwnU w base (.slice none 0 0) [] := World.ownsRow_nil w base _ _
theorem OwnU.rdU {w : World} {base : Nat} {v : Value} {l : List Int} (h : OwnU w base v l) (hl : IsU64 l) : ∃ A c, v = .slice A l.length c ∧ l.length ≤ c ∧ c ≤ maxLen ∧ RdU (fun k => v.ownBlock = some k) w A l := by
  obtain ⟨A, c, h1, h2, h3, h4⟩ := RdV.of_own h
  exact ⟨A, c, h1, h2, h3, hl, h4⟩
theorem OwnU.chg {S : Nat → Prop} {w w' : World} {base : Nat} {v : Value} {l : List Int} (h : OwnU w base v l) (hc : Chg S w w') (hg : ∀ g, v.ownBlock = some g → ¬ S g) : OwnU w' base v l := owns_chg h hc hg
theorem OwnU.later {w w' : World} {base : Nat} {v : Value} {l : List Int} (h : OwnU w base v l) (hb : Below w.heap.size w w') : OwnU w' base v l := h.chg (S := fun _ => False) (Chg.of_below hb) fun _ _ => id
theorem OwnU.base {w : World} {base base' : Nat} {v : Value} {l : List Int} (h : OwnU w base v l) (hb : base' ≤ base) : OwnU w base' v l := owns_base h hb

/-- The block that was just built for some numbers. -/
theorem rdU_lit (w : World) (l : List Int) (hl : IsU64 l) : RdU (fun k => k = w.heap.size) (w.alloc (.cells (l.map (Value.int .u64)).toArray 24)) (some ⟨w.heap.size, 0, none⟩) l := by
  refine ⟨hl, fun j u hu => ⟨_, rfl, by simp, ?_⟩⟩
  have h := (Own.new w 24 (l.map (Value.int .u64))).cell j
  rw [addPlain, Nat.zero_add, h, hu]

/-- What grew by appending: of the old blocks its own alone may have turned. -/
def Grew (v : Value) (w : World) (v' : Value) (w' : World) : Prop := Chg (fun k => v.ownBlock = some k) w w' ∧ ∀ k, v'.ownBlock = some k → v.ownBlock = some k ∨ w.heap.size ≤ k
theorem Grew.refl (v : Value) (w : World) : Grew v w v w := ⟨Chg.refl _ _, fun k h => .inl h⟩
theorem Grew.trans {v v1 v2 : Value} {w w1 w2 : World} (h1 : Grew v w v1 w1) (h2 : Grew v1 w1 v2 w2) : Grew v w v2 w2 := by
  have hs := h1.1.size
  refine ⟨h1.1.trans h2.1 fun k hk e => ?_, fun k hk => ?_⟩
  · rcases h1.2 k e with h | h
    · exact h
    · omega
  · rcases h2.2 k hk with h | h
    · exact h1.2 k h
    · exact .inr (by omega)
theorem Grew.of_grown {v v' : Value} {w w' : World} (h : w.grownBy w' v.ownBlock) (h2 : v'.ownBlock = v.ownBlock ∨ v'.ownBlock = some w.heap.size) : Grew v w v' w' := by
  refine ⟨(Chg.of_grown h).mono fun k _ e => e.symm, fun k hk => ?_⟩
  rcases h2 with e | e
  · exact .inl (by rw [← e]; exact hk)
  · rw [e] at hk; injection hk with hk; exact .inr (by omega)
theorem Grew.before {v v' : Value} {w0 w w' : World} (h : Grew v w v' w') (hb : Below w0.heap.size w0 w) (hv : ∀ k, v.ownBlock = some k → k < w0.heap.size) : Grew v w0 v' w' := by
  have hs := hb.size
  refine ⟨(Chg.of_below (S := fun k => v.ownBlock = some k) hb).trans h.1 fun k _ e => e, fun k hk => ?_⟩
  rcases h.2 k hk with e | e
  · exact .inl e
  · exact .inr (by omega)
theorem Grew.after {v v' : Value} {w w' w2 : World} (h : Grew v w v' w') (hb : Below w'.heap.size w' w2) : Grew v w v' w2 := ⟨h.1.trans (Chg.of_below (S := fun _ => False) hb) fun _ _ e => e.elim, h.2⟩
theorem Grew.below {v v' : Value} {w w' : World} {B : Nat} (h : Grew v w v' w') (hB : B ≤ w.heap.size) (hv : ∀ k, v.ownBlock = some k → B ≤ k) : Below B w w' := h.1.below hB fun k hk e => by have := hv k e; omega
theorem OwnB.lt {w : World} {base : Nat} {v : Value} {l : List Int} (h : OwnB w base v l) {k : Nat} (hk : v.ownBlock = some k) : k < w.heap.size := owns_lt h hk

theorem rdX_lit (w : World) (l : List Int) (hl : IsBytes l) : RdX (fun k => k = w.heap.size) (w.alloc (.cells (l.map (Value.int .u8)).toArray 5)) (some ⟨w.heap.size, 0, none⟩) l := by
  refine ⟨hl, fun j u hu => ⟨_, rfl, by simp, ?_⟩⟩
  have h := (Own.new w 5 (l.map (Value.int .u8))).cell j
  rw [addPlain, Nat.zero_add, h, hu]
/-- append(s, z): one byte more, out of the block that was just built for it. -/
theorem wpList_app1G {ops : Array Oper} {rest : List Oper} {o : Oper} {a : Act} {Q : Exit → Act → World → Prop} {w : World} (hgd : o.guard = none) (s x : Operand)
    (ho : o.op = .call { callee := .builtin .append, args := #[s, x], argTypes := #[44, 44] }) (base : Nat) (v : Value) (l : List Int) (hs : a.eval s = v) (hown : OwnB w base v l)
    (z : Int) (hx : a.eval x = .slice (some ⟨w.heap.size, 0, none⟩) 1 1) (hz0 : 0 ≤ z) (hz1 : z ≤ 255) (hlen : l.length + 1 ≤ 1000000000) (hbase : base ≤ w.heap.size)
    (h : ∀ v' w', OwnB w' base v' (l ++ [z]) → Grew v w v' w' → wpList Try.prog ops Q rest (a.put o.dst v') w') : wpList Try.prog ops Q (o :: rest) a (w.alloc (.cells #[.int .u8 z] 5)) := by
  have hb : Below w.heap.size w (w.alloc (.cells #[.int .u8 z] 5)) := (Below.refl _ _).alloc (Nat.le_refl _) _
  refine wpList_appB hgd s x ho base v l hs (hown.later hb) _ 1 1 [z] hx rfl (rdX_lit w [z] (IsBytes.one hz0 hz1)) hlen (by simp; omega) fun v' w' h1 h2 h3 => h v' w' h1 ((Grew.of_grown h2 h3).before hb fun k hk => owns_lt hown hk)
/-- append(s, x...), of bytes. -/
theorem wpList_appXG {X : Nat → Prop} {ops : Array Oper} {rest : List Oper} {o : Oper} {a : Act} {Q : Exit → Act → World → Prop} {w : World} (hgd : o.guard = none) (s x : Operand)
    (ho : o.op = .call { callee := .builtin .append, args := #[s, x], argTypes := #[44, 44] }) (base : Nat) (v : Value) (l : List Int) (hs : a.eval s = v) (hown : OwnB w base v l)
    (A : Option Addr) (m c : Nat) (news : List Int) (hx : a.eval x = .slice A m c) (hm : m = news.length) (hr : RdX X w A news) (hlen : l.length + m ≤ 1000000000) (hbase : base ≤ w.heap.size)
    (h : ∀ v' w', OwnB w' base v' (l ++ news) → Grew v w v' w' → wpList Try.prog ops Q rest (a.put o.dst v') w') : wpList Try.prog ops Q (o :: rest) a w :=
  wpList_appB hgd s x ho base v l hs hown A m c news hx hm hr hlen hbase fun v' w' h1 h2 h3 => h v' w' h1 (Grew.of_grown h2 h3)
theorem strCells_nums (l : List Int) (hl : IsBytes l) : Lib.strCells (strOfNums l) = l.map (Value.int .u8) := by
  simp only [Lib.strCells, strOfNums_data, List.map_map]
  apply List.map_congr_left
  intro z hz
  obtain ⟨h0, h1⟩ := hl z hz
  simp only [Function.comp]
  rw [UInt8.toNat_ofNat_of_lt' (by simp; omega)]
  congr 1; omega
theorem run_appStr (w : World) (base : Nat) (v : Value) (l : List Int) (ty : TypeId) (hown : OwnB w base v l) (news : List Int) (hnb : IsBytes news) (hlen : l.length + news.length ≤ 1000000000) (hbase : base ≤ w.heap.size) :
    ∃ v' w', (Builtin.append_ #[44, 9] ty #[v, .string (strOfNums news)]).run Try.prog w = .ok v' w' ∧ OwnB w' base v' (l ++ news) ∧ Grew v w v' w' := by
  obtain ⟨i, hi, hz, hsz, hb⟩ := info_parts byte_info
  have hss : (strOfNums news).size = news.length := strOfNums_size news
  obtain ⟨v', w', hr, h2, h3, h4⟩ := Lib.run_append_own_string (P := Try.prog) w base 44 9 ty 5 i under_bytes under_string hi hz hsz hb v l.length _ hown (strOfNums news) (by simp only [maxLen]; omega) (by omega) hbase
  refine ⟨v', w', hr, ?_, Grew.of_grown h3 ?_⟩
  · rw [strCells_nums news hnb, hss] at h2; unfold OwnB; simpa using h2
  · rcases hown.2 with ⟨rfl, h0⟩ | ⟨g, cap, cur, rfl, hbg, hg, hnc, hcm, hcs, htake⟩
    · by_cases hm : (strOfNums news).size = 0
      · rw [h4.2 ⟨rfl, hm⟩]; exact .inl rfl
      · have hr' := run_append_nil_string (P := Try.prog) w 44 9 ty 5 i (.int .u8 0) under_bytes under_string hi hz (strOfNums news) (by omega) (by omega) (by rw [hb]; omega)
        rw [hr'] at hr
        injection hr with hr _
        rw [← hr]; exact .inr rfl
    · by_cases hroom : l.length + (strOfNums news).size ≤ cap
      · have hcs' : cur.size = cap := by simpa using hcs
        have hr' := Lib.run_append_room_string (P := Try.prog) w 44 9 ty 5 i under_bytes under_string hi hsz g l.length cap cur hg (strOfNums news) hroom (by omega)
        rw [hr'] at hr
        injection hr with hr _
        rw [← hr]; exact .inl rfl
      · have holds : ∀ j u, (l.map (Value.int .u8))[j]? = some u → w.cell? ((⟨g, 0, none⟩ : Addr).add j) = some u := World.ownsRow.cells hown (g := g) rfl
        have hr' := Lib.run_append_grow_string (P := Try.prog) w 44 9 ty 5 i (.int .u8 0) under_bytes under_string hi hz ⟨g, 0, none⟩ l.length cap (l.map (Value.int .u8)) (by rw [hsz]; simp) holds (strOfNums news) (by omega) (by omega) (by rw [hb]; exact growslice_fits (by omega) (by omega))
        rw [hr'] at hr
        injection hr with hr _
        rw [← hr]; exact .inr rfl
/-- append(s, t...), t a string. -/
theorem wpList_appStr {ops : Array Oper} {rest : List Oper} {o : Oper} {a : Act} {Q : Exit → Act → World → Prop} {w : World} (hgd : o.guard = none) (s x : Operand)
    (ho : o.op = .call { callee := .builtin .append, args := #[s, x], argTypes := #[44, 9] }) (base : Nat) (v : Value) (l : List Int) (hs : a.eval s = v) (hown : OwnB w base v l)
    (news : List Int) (hnb : IsBytes news) (hx : a.eval x = .string (strOfNums news)) (hlen : l.length + news.length ≤ 1000000000) (hbase : base ≤ w.heap.size)
    (h : ∀ v' w', OwnB w' base v' (l ++ news) → Grew v w v' w' → wpList Try.prog ops Q rest (a.put o.dst v') w') : wpList Try.prog ops Q (o :: rest) a w := by
  obtain ⟨v', w', hrun, h1, h2⟩ := run_appStr w base v l o.type hown news hnb hlen hbase
  exact Lib.wpList_append_run w hgd s x _ _ ho _ _ hs hx v' w' hrun (h v' w' h1 h2)
end Go.Proofs.Ytdngkbagfaeplaa

/- req's source: what its calls come to. -/
namespace Go.Proofs.Ytdngkbagfaeplaa
open Go.RowKit
set_option maxRecDepth 100000
set_option linter.unusedVariables false

theorem RdrAt.below {B : Nat} {w w' : World} {g : Nat} {t : TypeId} {tl : RTl} {s : St} (h : RdrAt w g t tl s) (hb : Below B w w') (hg : g < B) (hB : B ≤ w.heap.size) : RdrAt w' g t tl s :=
  h.chg (S := fun k => B ≤ k) ⟨hb.os, hb.tape, hb.output, hb.size, fun k _ hk => hb.block k (by omega)⟩ fun k hk => by omega

def pKind : PR Int := seq pByte fun x l => if x < 1 ∨ 6 < x then .error 2 else .ok (x, l)

theorem shl8_or (x y : Int) (h0 : 0 ≤ x) (hy0 : 0 ≤ y) (hy : y ≤ 255) : Go.bits .or .u64 (IntKind.u64.wrap (x * 256)) y = x * 256 % 18446744073709551616 + y := by
  obtain ⟨a, rfl⟩ : ∃ a : Nat, x = a := ⟨x.toNat, by omega⟩
  obtain ⟨b, rfl⟩ : ∃ b : Nat, y = b := ⟨y.toNat, by omega⟩
  rw [IntKind.wrap_u64, show ((a : Int) * 256) % 18446744073709551616 = ((a * 256 % 18446744073709551616 : Nat) : Int) from by omega, u64_or_nat _ _ (by omega) (by omega), nat_join 8 _ b (by omega) (by omega)]
  omega
theorem pow256 (k : Nat) (hk : k < 8) : (256 : Int) ^ (k + 1) = 256 ^ k * 256 ∧ (256 : Int) ^ k ≤ 72057594037927936 := by
  refine ⟨Int.pow_succ _ _, ?_⟩
  rcases show k = 0 ∨ k = 1 ∨ k = 2 ∨ k = 3 ∨ k = 4 ∨ k = 5 ∨ k = 6 ∨ k = 7 from by omega with h | h | h | h | h | h | h | h <;> subst h <;> decide
/-- A text that was read. -/
def SPost (p : PR (List Int)) (g : Nat) (t : TypeId) (tl : RTl) (s : St) (w : World) (e : Ending) (w' : World) : Prop :=
  ∃ y, e = .returned (.string (strOfNums y)) ∧ IsBytes y ∧ RdrAt w' g t tl (nx p s) ∧ (∀ a l', bd s p = .ok (a, l') → y = a) ∧ Chg (fun k => k = g) w w' ∧ y.length ≤ 1000000
theorem nx_seq {α β : Type} (p : PR α) (f : α → PR β) (s : St) (a : α) (h : ∀ b l', bd s p = .ok (b, l') → a = b) : nx (seq p f) s = nx (f a) (nx p s) ∧ bd s (seq p f) = bd (nx p s) (f a) := by
  cases s with
  | error e => exact ⟨rfl, rfl⟩
  | ok l =>
    simp only [nx_ok, bd_ok, seq] at h ⊢
    cases hp : p l with
    | error e => exact ⟨rfl, rfl⟩
    | ok r =>
      have := h r.1 r.2 (by rw [hp])
      subst this
      exact ⟨rfl, rfl⟩
/-- Numbers that were read, into new memory. -/
def LPost (p : PR (List Int)) (g : Nat) (t : TypeId) (tl : RTl) (s : St) (w : World) (e : Ending) (w' : World) : Prop :=
  ∃ v y, e = .returned v ∧ OwnU w' w.heap.size v y ∧ IsU64 y ∧ RdrAt w' g t tl (nx p s) ∧ (∀ a l', bd s p = .ok (a, l') → y = a) ∧ Chg (fun k => k = g) w w' ∧ y.length ≤ 1000
end Go.Proofs.Ytdngkbagfaeplaa

/- types' source: what its calls come to. -/
namespace Go.Proofs.Ytdngkbagfaeplaa
open Go.RowKit
set_option maxRecDepth 100000
set_option linter.unusedVariables false

def pAmong (ps : List Int) : PR Int := seq pByte fun x l => if x ∈ ps then .ok (x, l) else .error 2
def valE (x : Int) : Int := if x = 127 ∨ x = 126 ∨ x = 112 ∨ x = 111 then 0 else if x = 125 ∨ x = 124 ∨ x = 123 then 5 else 2
theorem valE_cases (x : Int) : valE x = 0 ∨ valE x = 5 ∨ valE x = 2 := by
  unfold valE
  by_cases h1 : x = 127 ∨ x = 126 ∨ x = 112 ∨ x = 111
  · rw [if_pos h1]; exact .inl rfl
  · rw [if_neg h1]
    by_cases h2 : x = 125 ∨ x = 124 ∨ x = 123
    · rw [if_pos h2]; exact .inr (.inl rfl)
    · rw [if_neg h2]; exact .inr (.inr rfl)
def pVal : PR Int := seq pByte fun x l => if valE x = 0 then .ok (x, l) else .error (valE x)
def pV : Nat → List Int → PR (List Int)
  | 0, acc => fun l => .ok (acc, l)
  | n + 1, acc => seq pVal fun x => pV n (acc ++ [x])
def pVals : PR (List Int) := seq (pCount 8) fun n => pV n.toNat []
abbrev Fn := List Int × List Int
def pFn : PR Fn := seq (pAmong [96]) fun _ => seq pVals fun ps => seq pVals fun rs l => .ok ((ps, rs), l)
structure Lim where
  min : Int
  max : Int
  has : Bool
deriving DecidableEq
def pLim : PR Lim := seq (pAmong [0, 1]) fun k => seq (pU 32) fun a => if k = 1 then seq (pU 32) fun b l => .ok (⟨a, b, true⟩, l) else fun l => .ok (⟨a, 0, false⟩, l)

def valT (x : Int) : Value := .tuple #[.bool (decide (valE x = 0)), .int .i64 (valE x)]
theorem not_mem_step {l : List Int} {k : Nat} {x : Int} (hk : k < l.length) (h : x ∉ l.take k) (he : x ≠ l.getD k 0) : x ∉ l.take (k + 1) := by
  rw [List.take_add_one, List.getElem?_eq_getElem hk]
  rw [List.getD_eq_getElem?_getD, List.getElem?_eq_getElem hk] at he
  simp only [Option.getD_some] at he
  simp only [Option.toList_some, List.mem_append, List.mem_singleton, not_or]
  exact ⟨h, he⟩
theorem getD_mem {l : List Int} {k : Nat} (hk : k < l.length) : l.getD k 0 ∈ l := by
  rw [List.getD_eq_getElem?_getD, List.getElem?_eq_getElem hk]
  simp
theorem am_in {ps : List Int} {s : St} {x : Int} (h : x ∈ ps) (h3 : ∀ a l', bd s pByte = .ok (a, l') → x = a) : nx (pAmong ps) s = nx pByte s ∧ ∀ a l', bd s (pAmong ps) = .ok (a, l') → x = a := by
  cases s with
  | error e => exact ⟨rfl, fun a l' h => by cases h⟩
  | ok l =>
    simp only [nx_ok, bd_ok, pAmong, seq] at h3 ⊢
    cases hp : pByte l with
    | error e => simp
    | ok r =>
      have := h3 r.1 r.2 (by rw [hp])
      subst this
      rw [bd_ok, if_pos h]
      exact ⟨rfl, fun a l' h => by injection h with h; injection h⟩
theorem am_out {ps : List Int} {s : St} {x : Int} (h : x ∉ ps) (h3 : ∀ a l', bd s pByte = .ok (a, l') → x = a) : nx (pAmong ps) s = failS 2 (nx pByte s) ∧ ∀ a l', bd s (pAmong ps) ≠ .ok (a, l') := by
  cases s with
  | error e => exact ⟨rfl, fun a l' h => by cases h⟩
  | ok l =>
    simp only [nx_ok, bd_ok, pAmong, seq] at h3 ⊢
    cases hp : pByte l with
    | error e => simp [failS]
    | ok r =>
      have := h3 r.1 r.2 (by rw [hp])
      subst this
      rw [bd_ok, if_neg h]
      exact ⟨rfl, fun a l' h => by cases h⟩
theorem val_in {s : St} {x : Int} (h : valE x = 0) (h3 : ∀ a l', bd s pByte = .ok (a, l') → x = a) : nx pVal s = nx pByte s ∧ ∀ a l', bd s pVal = .ok (a, l') → x = a := by
  cases s with
  | error e => exact ⟨rfl, fun a l' h => by cases h⟩
  | ok l =>
    simp only [nx_ok, bd_ok, pVal, seq] at h3 ⊢
    cases hp : pByte l with
    | error e => simp
    | ok r =>
      have := h3 r.1 r.2 (by rw [hp])
      subst this
      rw [bd_ok, if_pos h]
      exact ⟨rfl, fun a l' h => by injection h with h; injection h⟩
theorem val_out {s : St} {x : Int} (h : valE x ≠ 0) (h3 : ∀ a l', bd s pByte = .ok (a, l') → x = a) : nx pVal s = failS (valE x) (nx pByte s) ∧ ∀ a l', bd s pVal ≠ .ok (a, l') := by
  cases s with
  | error e => exact ⟨rfl, fun a l' h => by cases h⟩
  | ok l =>
    simp only [nx_ok, bd_ok, pVal, seq] at h3 ⊢
    cases hp : pByte l with
    | error e => simp [failS]
    | ok r =>
      have := h3 r.1 r.2 (by rw [hp])
      subst this
      rw [bd_ok, if_neg h]
      exact ⟨rfl, fun a l' h => by cases h⟩
end Go.Proofs.Ytdngkbagfaeplaa
