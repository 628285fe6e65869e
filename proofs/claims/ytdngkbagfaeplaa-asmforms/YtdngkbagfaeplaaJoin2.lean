/- Texts joined: Bytes, ParseMath, BytesApp, Mem. -/
import Derived.Test.YtdngkbagfaeplaaRows
import Derived.WalkKit
import Derived.ProofKit
import Derived.WalkSpells
import Derived.WalkLawsBesides
import Derived.Below
import Derived.Lib.Hide
import Derived.Laws.CopyOwn
import Derived.Laws.BytesArg
import Derived.Laws.Rows
import Derived.Deep.OwnRows
import Derived.Test.YtdngkbagfaeplaaJoin0
import Derived.Lib.AppendZeros
import Derived.Maps.AppendAt
import Derived.Deep.Draws
/- Slices of bytes in memory: what the walks lean on. No function of the program. -/
namespace Go.Proofs.Ytdngkbagfaeplaa
open Go.RowKit
set_option maxRecDepth 100000
set_option linter.unusedVariables false

theorem under_bytes : Try.prog.underlying 44 = some (.slice 5) := Try.underlying44
theorem under_byte : Try.prog.underlying 5 = some (.int .u8) := Try.underlying5
theorem under_string : Try.prog.underlying 9 = some .string := Try.underlying9
theorem byte_info : (Try.prog.info? 5).map (fun i => (i.zero, i.size, i.bytes)) = some (some (.int .u8 0), 1, 1) := by kernel_rfl
theorem byte_size : (Try.prog.info? 5).map (·.size) = some 1 := by kernel_rfl

/-- The slice of that address holds the bytes l, below block B. -/
def Rd (w : World) (B : Nat) (A : Option Addr) (l : List Int) : Prop :=
  (∀ z ∈ l, 0 ≤ z ∧ z ≤ 255) ∧ ∀ j, j < l.length → ∃ ad, A = some ad ∧ ad.block < B ∧ w.cell? (ad.add j) = some (.int .u8 (l.getD j 0))

theorem addBlock (a : Addr) (n : Nat) : (a.add n).block = a.block := by unfold Addr.add; split <;> rfl
theorem addZero (a : Addr) : a.add 0 = a := by unfold Addr.add; simp
theorem addPlain (b o j : Nat) : (⟨b, o, none⟩ : Addr).add j = ⟨b, o + j, none⟩ := by unfold Addr.add; split <;> simp_all

section
variable {w w' : World} {B B' : Nat} {A : Option Addr} {l : List Int}
theorem Rd.byte (h : Rd w B A l) {k : Nat} (hk : k < l.length) : 0 ≤ l.getD k 0 ∧ l.getD k 0 ≤ 255 :=
  h.1 _ (by rw [List.getD_eq_getElem?_getD, List.getElem?_eq_getElem hk]; simp)
theorem Rd.nil (w : World) (B : Nat) (A : Option Addr) : Rd w B A [] := ⟨by simp, fun j h => by simp at h⟩
theorem Rd.keep (h : Rd w B A l) (hk : ∀ p : Addr, p.block < B → w'.cell? p = w.cell? p) : Rd w' B A l :=
  ⟨h.1, fun j hj => by
    obtain ⟨ad, e, hb, hc⟩ := h.2 j hj
    exact ⟨ad, e, hb, by rw [hk _ (by rw [addBlock]; exact hb)]; exact hc⟩⟩
theorem Rd.more (h : Rd w B A l) (hB : B ≤ B') : Rd w B' A l :=
  ⟨h.1, fun j hj => by
    obtain ⟨ad, e, hb, hc⟩ := h.2 j hj
    exact ⟨ad, e, by omega, hc⟩⟩
theorem Rd.below (h : Rd w B A l) (hb : Below B w w') : Rd w' B A l := h.keep fun _ hp => hb.cell hp
/-- Carried into a later world. -/
theorem Rd.later (h : Rd w w.heap.size A l) (hb : Below w.heap.size w w') : Rd w' w'.heap.size A l := (h.below hb).more hb.size

theorem Rd.spot (h : Rd w B A l) {j : Nat} (hj : j < l.length) : ∃ b o, A = some ⟨b, o, none⟩ ∧ b < B ∧ ∀ i, i < l.length → w.cell? ⟨b, o + i, none⟩ = some (.int .u8 (l.getD i 0)) := by
  obtain ⟨⟨b, o, sp⟩, rfl, hb, hc⟩ := h.2 0 (by omega)
  rw [addZero] at hc
  have hs : sp = none := by simpa using World.cell?_spot hc
  subst hs
  refine ⟨b, o, rfl, hb, fun i hi => ?_⟩
  obtain ⟨ad, e, _, hci⟩ := h.2 i hi
  injection e with e
  subst e
  rw [addPlain] at hci
  exact hci

theorem Rd.take (h : Rd w B A l) (k : Nat) : Rd w B A (l.take k) :=
  ⟨fun z hz => h.1 z (List.mem_of_mem_take hz), fun j hj => by
    obtain ⟨ad, e, hb, hc⟩ := h.2 j (by simp at hj; omega)
    refine ⟨ad, e, hb, ?_⟩
    rw [hc]
    have : j < k := by simp at hj; omega
    simp [List.getD_eq_getElem?_getD, List.getElem?_take_of_lt this]⟩

/-- The string of those bytes. -/
theorem Rd.string (h : Rd w B A l) (c : Nat) : (convert 44 9 (.slice A l.length c)).run Try.prog w = .ok (.string (strOfNums l)) w := by
  rcases Nat.eq_zero_or_pos l.length with h0 | h0
  · obtain rfl : l = [] := List.eq_nil_of_length_eq_zero h0
    rcases A with _ | ⟨b, o, sp⟩
    · exact run_convert_bytes_nil w _ _ under_bytes under_byte _ _ _ under_string
    · have hl : (loadCells (⟨b, o, sp⟩ : Addr) 0).run Try.prog w = .ok (([] : List Int).map (Value.int .u8)).toArray w := by
        have := run_loadCells_list (P := Try.prog) w ⟨b, o, sp⟩ [] (fun j v hj => by simp at hj)
        simpa using this
      rw [run_convert_bytes_string w _ _ _ _ _ _ under_bytes under_byte under_string]
      exact run_bytesToString w _ 0 c [] hl
  · obtain ⟨b, o, rfl, _, hc⟩ := h.spot h0
    exact run_convert_bytes_arg w _ _ under_bytes under_byte b o l.length c l rfl hc _ under_string
end

theorem strOfNums_eq {a b : List Int} (ha : ∀ z ∈ a, 0 ≤ z ∧ z ≤ 255) (hb : ∀ z ∈ b, 0 ≤ z ∧ z ≤ 255) : ((strOfNums a).toList == (strOfNums b).toList) = decide (a = b) := by
  have e : ∀ l : List Int, (strOfNums l).toList = l.map fun n => UInt8.ofNat n.toNat := fun l => by
    rw [ByteArray.toList_eq]; rfl
  rw [e, e, Bool.eq_iff_iff]
  simp only [beq_iff_eq, decide_eq_true_eq]
  constructor
  · intro h
    induction a generalizing b with
    | nil => cases b with
      | nil => rfl
      | cons y b => simp at h
    | cons x a ih => cases b with
      | nil => simp at h
      | cons y b =>
        simp only [List.map_cons, List.cons.injEq] at h
        have hx := ha x (by simp)
        have hy := hb y (by simp)
        have h1 : x.toNat = y.toNat := by
          have := congrArg UInt8.toNat h.1
          simpa [UInt8.toNat_ofNat', Nat.mod_eq_of_lt (show x.toNat < 256 by omega), Nat.mod_eq_of_lt (show y.toNat < 256 by omega)] using this
        rw [ih (fun z hz => ha z (by simp [hz])) (fun z hz => hb z (by simp [hz])) h.2, show x = y by omega]
  · rintro rfl; rfl

/-- A block of the call's own, known whole. -/
def Own (w : World) (g : Nat) (t : TypeId) (L : List Value) : Prop := w.heap[g]? = some (.cells L.toArray t (0, 0))
section
variable {w w' : World} {g : Nat} {t : TypeId} {L : List Value}
theorem Own.lt (h : Own w g t L) : g < w.heap.size := by
  rcases Nat.lt_or_ge g w.heap.size with hlt | hge
  · exact hlt
  · unfold Own at h; rw [Array.getElem?_eq_none hge] at h; cases h
theorem Own.cell (h : Own w g t L) (i : Nat) : w.cell? ⟨g, i, none⟩ = L[i]? := by
  rw [cell_of_row w g i _ t (0, 0) h]; simp
theorem Own.frozen (h : Own w g t L) (i : Nat) : w.frozen? ⟨g, i, none⟩ = false := by
  unfold Own at h
  simp [World.frozen?, h]
theorem Own.set (h : Own w g t L) (i : Nat) (u : Value) : Own (w.setCell ⟨g, i, none⟩ u) g t (L.set i u) := by
  unfold Own at h ⊢
  simp [World.setCell, Array.getElem?_modify, h]
theorem Own.below {B : Nat} (h : Own w g t L) (hb : Below B w w') (hg : g < B) : Own w' g t L := (hb.block g hg).trans h
theorem Own.later (h : Own w g t L) (hb : Below w.heap.size w w') : Own w' g t L := h.below hb h.lt
/-- A block of bytes reads so, from its front on. -/
theorem Own.rd {l : List Int} {tl : List Value} (h : Own w g t (l.map (Value.int .u8) ++ tl)) (hl : ∀ z ∈ l, 0 ≤ z ∧ z ≤ 255) : Rd w w.heap.size (some ⟨g, 0, none⟩) l :=
  ⟨hl, fun j hj => ⟨_, rfl, h.lt, by
    rw [addPlain, h.cell, List.getElem?_append_left (by simpa using by omega)]
    simp [List.getElem?_eq_getElem hj, List.getD_eq_getElem?_getD]⟩⟩
end
end Go.Proofs.Ytdngkbagfaeplaa

/- Reading on, as plain functions of bytes. No function of the program. -/
namespace Go.Proofs.Ytdngkbagfaeplaa
open Go.RowKit
set_option maxRecDepth 100000
set_option linter.unusedVariables false

/-- What is left to read, or the first error. -/
abbrev St := Except Int (List Int)
abbrev PR (α : Type) := List Int → Except Int (α × List Int)
def bd {α β : Type} (x : Except Int α) (f : α → Except Int β) : Except Int β := match x with
  | .error e => .error e
  | .ok a => f a
@[simp] theorem bd_ok {α β : Type} (a : α) (f : α → Except Int β) : bd (.ok a) f = f a := rfl
@[simp] theorem bd_error {α β : Type} (e : Int) (f : α → Except Int β) : bd (.error e : Except Int α) f = .error e := rfl
theorem bd_bd {α β γ : Type} (x : Except Int α) (f : α → Except Int β) (g : β → Except Int γ) : bd (bd x f) g = bd x fun a => bd (f a) g := by cases x <;> rfl
/-- The state behind. -/
def nx {α : Type} (p : PR α) (s : St) : St := bd (bd s p) fun r => .ok r.2
@[simp] theorem nx_error {α : Type} (p : PR α) (e : Int) : nx p (.error e) = .error e := rfl
theorem nx_ok {α : Type} (p : PR α) (l : List Int) : nx p (.ok l) = bd (p l) fun r => .ok r.2 := rfl
/-- One reads, then another one. -/
def seq {α β : Type} (p : PR α) (f : α → PR β) : PR β := fun l => bd (p l) fun r => f r.1 r.2

def failS (e : Int) (s : St) : St := match s with
  | .error e' => .error e'
  | .ok _ => .error e
def lenS (s : St) : Nat := match s with
  | .error _ => 0
  | .ok l => l.length
def endS (s : St) : Int := match s with
  | .error e => e
  | .ok [] => 0
  | .ok _ => 2

def pByte : PR Int
  | [] => .error 3
  | x :: t => .ok (x, t)
def pU (bits : Int) : PR Int := fun l => if (rdU bits l).2.2 = 0 then .ok ((rdU bits l).1 % 2 ^ bits.toNat, l.drop (rdU bits l).2.1.toNat) else .error (rdU bits l).2.2
def pBytes (n : Nat) : PR (List Int) := fun l => if n ≤ l.length then .ok (l.take n, l.drop n) else .error 3
def pCount (most : Int) : PR Int := seq (pU 32) fun v l => if most < v then .error 4 else .ok (v, l)
/-- n bytes more, the highest first. -/
def pW : Nat → Int → PR Int
  | 0, v => fun l => .ok (v, l)
  | n + 1, v => seq pByte fun b => pW n (v * 256 + b)
/-- n numbers more. -/
def pN : Nat → List Int → PR (List Int)
  | 0, acc => fun l => .ok (acc, l)
  | n + 1, acc => seq (pU 64) fun x => pN n (acc ++ [x])
def pName (most : Int) : PR (List Int) := seq (pCount most) fun n => pBytes n.toNat
def pList (most : Int) : PR (List Int) := seq (pCount most) fun n => pN n.toNat []
def pWord : PR Int := pW 8 0

theorem pU_ok {bits : Int} {l : List Int} {u m : Int} (h : rdU bits l = (u, m, 0)) : pU bits l = .ok (u % 2 ^ bits.toNat, l.drop m.toNat) := by simp [pU, h]
theorem pU_no {bits : Int} {l : List Int} {u m e : Int} (h : rdU bits l = (u, m, e)) (he : e ≠ 0) : pU bits l = .error e := by simp [pU, h, he]
theorem rdU_cases (bits : Int) (h0 : 1 ≤ bits) (hb : bits ≤ 64) (l : List Int) : rdU bits l = (0, 0, 3) ∨ rdU bits l = (0, 0, 2) ∨
    ∃ (u : Int) (m : Nat), rdU bits l = (u, (m : Int), 0) ∧ 0 ≤ u ∧ u < 18446744073709551616 ∧ 1 ≤ m ∧ m ≤ 10 ∧ m ≤ l.length := by
  rcases dec_cases bits fitU (by omega) l 0 0 (by omega) with h | h | ⟨u, m, h, h1, h2, h3, h4, h5⟩
  · exact .inl h
  · exact .inr (.inl h)
  · exact .inr (.inr ⟨u, m, h, h1, h2, h3, by omega, by omega⟩)

theorem pW_eq (n : Nat) : ∀ (v : Int) (l : List Int), pW n v l = if n ≤ l.length then .ok ((l.take n).foldl (fun a b => a * 256 + b) v, l.drop n) else .error 3 := by
  induction n with
  | zero => intro v l; simp [pW]
  | succ n ih =>
    intro v l
    cases l with
    | nil => simp [pW, seq, pByte]
    | cons x t => simp [pW, seq, pByte, ih]
theorem foldBE_bd (l : List Int) : ∀ (v : Int) (k : Nat), 0 ≤ v → v < 256 ^ k → (∀ z ∈ l, 0 ≤ z ∧ z ≤ 255) → 0 ≤ l.foldl (fun a b => a * 256 + b) v ∧ l.foldl (fun a b => a * 256 + b) v < 256 ^ (k + l.length) := by
  induction l with
  | nil => intro v k h0 h1 _; simpa using ⟨h0, h1⟩
  | cons x t ih =>
    intro v k h0 h1 hz
    have hx := hz x (by simp)
    have := ih (v * 256 + x) (k + 1) (by omega) (by rw [Int.pow_succ]; omega) (fun z h => hz z (by simp [h]))
    rw [show k + (x :: t).length = k + 1 + t.length from by simp; omega]
    simpa using this
/-- A number in eight bytes. -/
def be8 (x : Int) : List Int := [x / 72057594037927936 % 256, x / 281474976710656 % 256, x / 1099511627776 % 256, x / 4294967296 % 256, x / 16777216 % 256, x / 65536 % 256, x / 256 % 256, x % 256]
theorem be8_len (x : Int) : (be8 x).length = 8 := rfl
theorem be8_is (x : Int) : ∀ z ∈ be8 x, 0 ≤ z ∧ z ≤ 255 := by
  intro z hz; simp [be8] at hz; omega
theorem be8_get (x : Int) (k : Nat) (hk : k < 8) : (be8 x).getD k 0 = x / 2 ^ (8 * (7 - k)) % 256 := by
  rcases show k = 0 ∨ k = 1 ∨ k = 2 ∨ k = 3 ∨ k = 4 ∨ k = 5 ∨ k = 6 ∨ k = 7 from by omega with h | h | h | h | h | h | h | h <;> subst h <;> simp [be8]
theorem pWord_be8 (x : Int) (h0 : 0 ≤ x) (h1 : x < 18446744073709551616) (l : List Int) : pWord (be8 x ++ l) = .ok (x, l) := by
  unfold pWord
  rw [pW_eq, if_pos (by simp [be8])]
  simp only [be8, List.cons_append, List.nil_append, List.take_succ_cons, List.take_zero, List.drop_succ_cons, List.drop_zero, List.foldl]
  congr 2
  omega
end Go.Proofs.Ytdngkbagfaeplaa

/- Appending to a slice of bytes that the call made itself: what the walks lean on. No function of the program but slices.Grow and slices.Concat at bytes. -/
namespace Go.Proofs.Ytdngkbagfaeplaa
open Go.RowKit
set_option maxRecDepth 100000
set_option linter.unusedVariables false

/-- A slice of bytes in a block of the call's own, from block 'base' on: it holds l. -/
def OwnB (w : World) (base : Nat) (v : Value) (l : List Int) : Prop := w.ownsRow base 5 1 v l.length (l.map (Value.int .u8))

def IsBytes (l : List Int) : Prop := ∀ z ∈ l, 0 ≤ z ∧ z ≤ 255
theorem IsBytes.app {a b : List Int} (ha : IsBytes a) (hb : IsBytes b) : IsBytes (a ++ b) := fun z hz => by
  rcases List.mem_append.1 hz with h | h
  · exact ha z h
  · exact hb z h
theorem IsBytes.one {z : Int} (h0 : 0 ≤ z) (h1 : z ≤ 255) : IsBytes [z] := fun y hy => by simp at hy; subst hy; exact ⟨h0, h1⟩
theorem IsBytes.nil : IsBytes [] := fun z hz => by simp at hz

theorem OwnB.nil (w : World) (base : Nat) : OwnB w base (.slice none 0 0) [] := World.ownsRow_nil w base _ _
theorem OwnB.form {w : World} {base : Nat} {v : Value} {l : List Int} (h : OwnB w base v l) (hl : IsBytes l) : ∃ A c, v = .slice A l.length c ∧ Rd w w.heap.size A l ∧ l.length ≤ maxLen := by
  obtain ⟨h1, h2⟩ := h
  rcases h2 with ⟨rfl, h2⟩ | ⟨g, cap, cur, rfl, hg, hh, hn, hm, hs, ht⟩
  · obtain rfl : l = [] := List.eq_nil_of_length_eq_zero h2
    exact ⟨none, 0, rfl, Rd.nil _ _ _, by simp⟩
  · refine ⟨_, cap, rfl, ⟨hl, fun j hj => ⟨_, rfl, ?_, ?_⟩⟩, by omega⟩
    · rcases Nat.lt_or_ge g w.heap.size with hlt | hge
      · exact hlt
      · rw [Array.getElem?_eq_none hge] at hh; cases hh
    · rw [addPlain, cell_of_row w g _ _ _ _ hh, Nat.zero_add]
      have e : (cur.toList.take (l.length * 1))[j]? = (l.map (Value.int .u8))[j]? := by rw [ht]
      rw [List.getElem?_take_of_lt (by omega), List.getElem?_map, List.getElem?_eq_getElem hj] at e
      simpa [List.getD_eq_getElem?_getD, List.getElem?_eq_getElem hj] using e
theorem OwnB.form2 {w : World} {base : Nat} {v : Value} {l : List Int} (h : OwnB w base v l) (hl : IsBytes l) : ∃ A c, v = .slice A l.length c ∧ Rd w w.heap.size A l ∧ l.length ≤ c ∧ c ≤ maxLen := by
  obtain ⟨A, c, hv, hr, _⟩ := h.form hl
  refine ⟨A, c, hv, hr, ?_⟩
  rcases h.2 with ⟨h2, h3⟩ | ⟨g, cap, cur, h2, _, _, hn, hm, _⟩
  · rw [hv] at h2; injection h2 with _ _ hc; subst hc; rw [h3]; simp
  · rw [hv] at h2; injection h2 with _ _ hc; subst hc; exact ⟨hn, hm⟩
theorem OwnB.below {w w' : World} {base B : Nat} {v : Value} {l : List Int} (h : OwnB w base v l) (hb : Below B w w') (hB : ∀ g, v.ownBlock = some g → g < B) : OwnB w' base v l := by
  obtain ⟨h1, h2⟩ := h
  refine ⟨h1, ?_⟩
  rcases h2 with h2 | ⟨g, cap, cur, rfl, hg, hh, r⟩
  · exact .inl h2
  · exact .inr ⟨g, cap, cur, rfl, hg, by rw [hb.block g (hB g rfl)]; exact hh, r⟩
theorem OwnB.later {w w' : World} {base : Nat} {v : Value} {l : List Int} (h : OwnB w base v l) (hb : Below w.heap.size w w') : OwnB w' base v l :=
  h.below hb fun g hg => (World.ownsRow.lt h g hg).2
theorem OwnB.base {w : World} {base base' : Nat} {v : Value} {l : List Int} (h : OwnB w base v l) (hb : base' ≤ base) : OwnB w base' v l := by
  obtain ⟨h1, h2⟩ := h
  refine ⟨h1, ?_⟩
  rcases h2 with h2 | ⟨g, cap, cur, hv, hg, r⟩
  · exact .inl h2
  · exact .inr ⟨g, cap, cur, hv, by omega, r⟩

theorem run_app (w : World) (base : Nat) (v : Value) (l : List Int) (ty : TypeId) (hown : OwnB w base v l) (A : Option Addr) (c : Nat) (news : List Int) (hr : Rd w w.heap.size A news)
    (hlen : l.length + news.length ≤ 1000000000) (hbase : base ≤ w.heap.size) :
    ∃ v' w', (Builtin.append_ #[44, 44] ty #[v, .slice A news.length c]).run Try.prog w = .ok v' w' ∧ OwnB w' base v' (l ++ news) ∧ Below base w w' := by
  obtain ⟨i, hi, hz, hs, hb⟩ := info_parts byte_info
  rcases A with _ | ad
  · have hn : news = [] := by
      cases news with
      | nil => rfl
      | cons z news => obtain ⟨_, h, _⟩ := hr.2 0 (by simp); cases h
    subst hn
    refine ⟨v, w, ?_, by simpa using hown, Below.refl _ _⟩
    rcases hown.2 with ⟨rfl, h0⟩ | ⟨g, cap, cur, rfl, _, _, hnc, _⟩
    · simp [Builtin.append_, run_underlying under_bytes, sizeOf, typeInfo, hi, Builtin.lenOf, Builtin.firstCells]
    · simp [Builtin.append_, run_underlying under_bytes, sizeOf, typeInfo, hi, Builtin.lenOf, Builtin.firstCells, hnc, storeCells]
  · have hnews : ∀ j u, (news.map (Value.int .u8))[j]? = some u → w.cell? (ad.add j) = some u := by
      intro j u hu
      rw [List.getElem?_map] at hu
      obtain ⟨z, hz, rfl⟩ := Option.map_eq_some_iff.1 hu
      have hj : j < news.length := (List.getElem?_eq_some_iff.1 hz).1
      obtain ⟨ad', e, _, hc⟩ := hr.2 j hj
      have e := Option.some.inj e
      subst e
      rw [hc, List.getD_eq_getElem?_getD, hz]
      rfl
    obtain ⟨v', w', hrun, h2, h3, h4⟩ := run_append_own (P := Try.prog) w base 44 ty 5 i _ 1 1 under_bytes hi hz hs hb rfl (by omega) v l.length _ hown ad news.length c (news.map (Value.int .u8)) (by simp) hnews
      (fun u hu => by obtain ⟨z, _, rfl⟩ := List.mem_map.1 hu; rfl) (by simp only [maxLen]; omega) (by omega) hbase
    refine ⟨v', w', hrun, by unfold OwnB; simpa using h2, ?_⟩
    exact (Below.refl base w).grown h3 hbase fun k hk => (World.ownsRow.lt hown k hk).1

theorem wpList_app {ops : Array Oper} {rest : List Oper} {o : Oper} {a : Act} {Q : Exit → Act → World → Prop} {w : World} (hgd : o.guard = none) (s x : Operand)
    (ho : o.op = .call { callee := .builtin .append, args := #[s, x], argTypes := #[44, 44] }) (base : Nat) (v : Value) (l : List Int) (hs : a.eval s = v) (hown : OwnB w base v l)
    (A : Option Addr) (m c : Nat) (news : List Int) (hx : a.eval x = .slice A m c) (hm : m = news.length) (hr : Rd w w.heap.size A news) (hlen : l.length + m ≤ 1000000000) (hbase : base ≤ w.heap.size)
    (h : ∀ v' w', OwnB w' base v' (l ++ news) → Below base w w' → wpList Try.prog ops Q rest (a.put o.dst v') w') : wpList Try.prog ops Q (o :: rest) a w := by
  subst hm
  obtain ⟨v', w', hrun, h1, h2⟩ := run_app w base v l o.type hown A c news hr hlen hbase
  exact Lib.wpList_append_run w hgd s x _ _ ho _ _ hs hx v' w' hrun (h v' w' h1 h2)

/-- A literal's block reads so. -/
theorem rd_lit (w : World) (l : List Int) (hl : IsBytes l) : Rd (w.alloc (.cells (l.map (Value.int .u8)).toArray 5)) (w.heap.size + 1) (some ⟨w.heap.size, 0, none⟩) l := by
  have h : Own (w.alloc (.cells (l.map (Value.int .u8)).toArray 5)) w.heap.size 5 (l.map (Value.int .u8) ++ []) := by
    unfold Own; rw [List.append_nil]; exact heap_alloc_new w _
  have := h.rd hl
  simpa using this
theorem ownB_lit0 (w : World) : OwnB (w.alloc (.cells #[] 5)) w.heap.size (.slice (some ⟨w.heap.size, 0, none⟩) 0 0) [] :=
  ⟨by simp, .inr ⟨w.heap.size, 0, #[], rfl, Nat.le_refl _, heap_alloc_new w _, by simp, by simp, by simp, by simp⟩⟩

/-- append(s, z): one byte more, out of the block that was just built for it. -/
theorem wpList_app1 {ops : Array Oper} {rest : List Oper} {o : Oper} {a : Act} {Q : Exit → Act → World → Prop} {w : World} (hgd : o.guard = none) (s x : Operand)
    (ho : o.op = .call { callee := .builtin .append, args := #[s, x], argTypes := #[44, 44] }) (base : Nat) (v : Value) (l : List Int) (hs : a.eval s = v) (hown : OwnB w base v l)
    (z : Int) (hx : a.eval x = .slice (some ⟨w.heap.size, 0, none⟩) 1 1) (hz0 : 0 ≤ z) (hz1 : z ≤ 255) (hlen : l.length + 1 ≤ 1000000000) (hbase : base ≤ w.heap.size)
    (h : ∀ v' w', OwnB w' base v' (l ++ [z]) → Below base w w' → wpList Try.prog ops Q rest (a.put o.dst v') w') : wpList Try.prog ops Q (o :: rest) a (w.alloc (.cells #[.int .u8 z] 5)) := by
  have hb : Below w.heap.size w (w.alloc (.cells #[.int .u8 z] 5)) := (Below.refl _ _).alloc (Nat.le_refl _) _
  have hr := rd_lit w [z] (IsBytes.one hz0 hz1)
  refine wpList_app hgd s x ho base v l hs (hown.later hb) _ 1 1 [z] hx rfl (by simpa using hr) hlen (by simp; omega) fun v' w' h1 h2 => h v' w' h1 ((hb.mono hbase).trans h2)
end Go.Proofs.Ytdngkbagfaeplaa

/- Memory by blocks: what may have turned, rows that are read, rows of the call's own. No function of the program. -/
namespace Go.Proofs.Ytdngkbagfaeplaa
open Go.RowKit
set_option maxRecDepth 100000
set_option linter.unusedVariables false

/-- Of the blocks that were there, those of S alone may have turned. -/
structure Chg (S : Nat → Prop) (w w' : World) : Prop where
  os : w'.os = w.os
  tape : w'.tape = w.tape
  output : w'.output = w.output
  size : w.heap.size ≤ w'.heap.size
  block : ∀ k, k < w.heap.size → ¬ S k → w'.heap[k]? = w.heap[k]?

section
variable {S S' : Nat → Prop} {w w' a b c : World}
theorem Chg.refl (S : Nat → Prop) (w : World) : Chg S w w := ⟨rfl, rfl, rfl, Nat.le_refl _, fun _ _ _ => rfl⟩
theorem Chg.trans (h : Chg S a b) (k : Chg S' b c) (hs : ∀ i, i < a.heap.size → S' i → S i) : Chg S a c :=
  ⟨k.os.trans h.os, k.tape.trans h.tape, k.output.trans h.output, Nat.le_trans h.size k.size, fun i hi hn =>
    (k.block i (Nat.lt_of_lt_of_le hi h.size) (fun e => hn (hs i hi e))).trans (h.block i hi hn)⟩
theorem Chg.mono (h : Chg S a b) (hs : ∀ i, i < a.heap.size → S i → S' i) : Chg S' a b :=
  ⟨h.os, h.tape, h.output, h.size, fun i hi hn => h.block i hi (fun e => hn (hs i hi e))⟩
theorem Chg.of_below (h : Below w.heap.size w w') : Chg S w w' := ⟨h.os, h.tape, h.output, h.size, fun i hi _ => h.block i hi⟩
theorem Chg.below {B : Nat} (h : Chg S w w') (hB : B ≤ w.heap.size) (hs : ∀ i, i < B → ¬ S i) : Below B w w' :=
  ⟨h.os, h.tape, h.output, h.size, fun i hi => h.block i (by omega) (hs i hi)⟩
theorem Chg.of_grown {row : Option Nat} (h : w.grownBy w' row) : Chg (fun k => some k = row) w w' := ⟨h.os, h.tape, h.output, h.size, h.block⟩
theorem Chg.setCell (w : World) (p : Addr) (u : Value) : Chg (fun k => k = p.block) w (w.setCell p u) :=
  ⟨rfl, rfl, rfl, by simp [World.setCell], fun k _ hn => Below.heap_setCell w p u k hn⟩
theorem Chg.alloc (w : World) (o : Obj) : Chg S w (w.alloc o) := Chg.of_below ((Below.refl _ _).alloc (Nat.le_refl _) _)
theorem Chg.drew (h : Chg S a b) : Chg S a b.drew := ⟨h.os, h.tape, h.output, h.size, h.block⟩
theorem Chg.drewN (h : Chg S a b) (n : Nat) : Chg S a (b.drewN n) := ⟨h.os, h.tape, h.output, h.size, h.block⟩
theorem Chg.undrew (h : Chg S a.drew b) : Chg S a b := ⟨h.os, h.tape, h.output, h.size, h.block⟩
theorem Chg.undrewN {n : Nat} (h : Chg S (a.drewN n) b) : Chg S a b := ⟨h.os, h.tape, h.output, h.size, h.block⟩
theorem Chg.all (h : Chg (fun _ => False) w w') : Below w.heap.size w w' := h.below (Nat.le_refl _) (fun _ _ => id)
/-- What S names and is new here does not count. -/
theorem Chg.fresh (h : Chg S a b) (hs : ∀ i, S i → a.heap.size ≤ i) : Below a.heap.size a b := h.below (Nat.le_refl _) fun i hi e => by have := hs i e; omega
theorem below_drewN' {B : Nat} (h : Below B a b) (n : Nat) : Below B a (b.drewN n) := ⟨h.os, h.tape, h.output, h.size, h.block⟩
theorem below_undrewN {B n : Nat} (h : Below B (a.drewN n) b) : Below B a b := ⟨h.os, h.tape, h.output, h.size, h.block⟩
theorem below_undrew {B : Nat} (h : Below B a.drew b) : Below B a b := ⟨h.os, h.tape, h.output, h.size, h.block⟩
end

section
variable {S : Nat → Prop} {w w' : World} {g : Nat} {t : TypeId} {L : List Value}
theorem Own.chg (h : Own w g t L) (hc : Chg S w w') (hg : ¬ S g) : Own w' g t L := (hc.block g h.lt hg).trans h
theorem Own.new (w : World) (t : TypeId) (L : List Value) : Own (w.alloc (.cells L.toArray t)) w.heap.size t L := heap_alloc_new w _
theorem Own.far (h : Own w g t L) {p : Addr} (hp : g ≠ p.block) (u : Value) : Own (w.setCell p u) g t L := (Below.heap_setCell w p u g hp).trans h
theorem Own.drewN (h : Own w g t L) (n : Nat) : Own (w.drewN n) g t L := h
theorem Own.ne {g' : Nat} {t' : TypeId} {L' : List Value} (h : Own w g t L) (h' : Own w g' t' L') (hne : t ≠ t') : g ≠ g' := by
  rintro rfl
  unfold Own at h h'
  rw [h] at h'
  injection h' with h'
  injection h' with _ ht
  exact hne ht
end

/-- The slice of that address holds the cells vs, each in a block of X. -/
def RdV (X : Nat → Prop) (w : World) (A : Option Addr) (vs : List Value) : Prop :=
  ∀ j u, vs[j]? = some u → ∃ ad, A = some ad ∧ X ad.block ∧ w.cell? (ad.add j) = some u

section
variable {X Y : Nat → Prop} {w w' : World} {A : Option Addr} {vs : List Value}
theorem RdV.nil (X : Nat → Prop) (w : World) (A : Option Addr) : RdV X w A [] := fun j u h => by simp at h
theorem RdV.mono (h : RdV X w A vs) (hx : ∀ k, k < w.heap.size → X k → Y k) : RdV Y w A vs := fun j u hu => by
  obtain ⟨ad, e, hX, hc⟩ := h j u hu
  have hb := World.block_lt_of_cell? w _ hc
  rw [addBlock] at hb
  exact ⟨ad, e, hx _ hb hX, hc⟩
theorem RdV.lt (h : RdV X w A vs) : RdV (fun k => X k ∧ k < w.heap.size) w A vs := h.mono fun k hk hx => ⟨hx, hk⟩
theorem RdV.same (h : RdV X w A vs) (hk : ∀ k, k < w.heap.size → X k → w'.heap[k]? = w.heap[k]?) : RdV X w' A vs := fun j u hu => by
  obtain ⟨ad, e, hX, hc⟩ := h j u hu
  refine ⟨ad, e, hX, ?_⟩
  have hb := World.block_lt_of_cell? w _ hc
  rw [addBlock] at hb
  rw [World.cell?_of_block (w := w) (by rw [addBlock]; exact hk _ hb hX)]
  exact hc
theorem RdV.drewN (h : RdV X w A vs) (n : Nat) : RdV X (w.drewN n) A vs := h
theorem RdV.chg {S : Nat → Prop} (h : RdV X w A vs) (hc : Chg S w w') (hs : ∀ k, k < w.heap.size → X k → ¬ S k) : RdV X w' A vs := h.same fun k hk hx => hc.block k hk (hs k hk hx)
theorem RdV.below {B : Nat} (h : RdV X w A vs) (hc : Below B w w') (hs : ∀ k, k < w.heap.size → X k → k < B) : RdV X w' A vs := h.same fun k hk hx => hc.block k (hs k hk hx)
theorem RdV.later (h : RdV X w A vs) (hc : Below w.heap.size w w') : RdV X w' A vs := h.same fun k hk hx => hc.block k hk
theorem RdV.spot (h : RdV X w A vs) (hp : 0 < vs.length) : ∃ b o, A = some ⟨b, o, none⟩ ∧ X b ∧ b < w.heap.size ∧ ∀ i u, vs[i]? = some u → w.cell? ⟨b, o + i, none⟩ = some u := by
  obtain ⟨⟨b, o, sp⟩, rfl, hX, hc⟩ := h 0 _ (List.getElem?_eq_getElem hp)
  rw [addZero] at hc
  have hs : sp = none := by simpa using World.cell?_spot hc
  subst hs
  refine ⟨b, o, rfl, hX, World.block_lt_of_cell? w _ hc, fun i u hu => ?_⟩
  obtain ⟨ad, e, _, hci⟩ := h i u hu
  have e := Option.some.inj e
  subst e
  rwa [addPlain] at hci
theorem RdV.take (h : RdV X w A vs) (k : Nat) : RdV X w A (vs.take k) := fun j u hu => by
  refine h j u ?_
  rw [List.getElem?_take] at hu
  split at hu
  · exact hu
  · cases hu
theorem RdV.sub {b o : Nat} (h : RdV X w (some ⟨b, o, none⟩) vs) (i n : Nat) : RdV X w (some ⟨b, o + i, none⟩) ((vs.drop i).take n) := fun j u hu => by
  rw [List.getElem?_take] at hu
  split at hu
  · rw [List.getElem?_drop] at hu
    obtain ⟨ad, e, hX, hc⟩ := h _ u hu
    have e := Option.some.inj e
    subst e
    refine ⟨_, rfl, hX, ?_⟩
    rw [addPlain] at hc ⊢
    rw [← hc, Nat.add_assoc]
  · cases hu
theorem RdV.tail {b o : Nat} (h : RdV X w (some ⟨b, o, none⟩) vs) (i : Nat) : RdV X w (some ⟨b, o + i, none⟩) (vs.drop i) := by
  have := h.sub i (vs.length)
  rwa [List.take_of_length_le (by simp)] at this
theorem RdV.of_own {base : Nat} {e : TypeId} {sz n : Nat} {v : Value} (h : w.ownsRow base e sz v n vs) : ∃ A c, v = .slice A n c ∧ n ≤ c ∧ c ≤ maxLen ∧ RdV (fun k => v.ownBlock = some k) w A vs := by
  rcases h.2 with ⟨rfl, rfl⟩ | ⟨g, cap, cur, rfl, hg, hh, hn, hm, hs, ht⟩
  · have : vs = [] := List.eq_nil_of_length_eq_zero (by simpa using h.1)
    subst this
    exact ⟨none, 0, rfl, by simp, by simp, RdV.nil _ _ _⟩
  · exact ⟨_, cap, rfl, hn, hm, fun j u hu => ⟨_, rfl, rfl, h.cells (g := g) rfl j u hu⟩⟩
end

/-- A row of the call's own, carried on. -/
theorem owns_chg {S : Nat → Prop} {w w' : World} {base : Nat} {e : TypeId} {sz n : Nat} {v : Value} {xs : List Value} (h : w.ownsRow base e sz v n xs) (hc : Chg S w w') (hg : ∀ g, v.ownBlock = some g → ¬ S g) : w'.ownsRow base e sz v n xs := by
  obtain ⟨h1, h2⟩ := h
  refine ⟨h1, ?_⟩
  rcases h2 with h2 | ⟨g, cap, cur, rfl, hb, hh, r⟩
  · exact .inl h2
  · refine .inr ⟨g, cap, cur, rfl, hb, ?_, r⟩
    have hlt : g < w.heap.size := by
      rcases Nat.lt_or_ge g w.heap.size with hlt | hge
      · exact hlt
      · rw [Array.getElem?_eq_none hge] at hh; cases hh
    rw [hc.block g hlt (hg g rfl)]; exact hh
theorem owns_base {w : World} {base base' : Nat} {e : TypeId} {sz n : Nat} {v : Value} {xs : List Value} (h : w.ownsRow base e sz v n xs) (hb : base' ≤ base) : w.ownsRow base' e sz v n xs := by
  obtain ⟨h1, h2⟩ := h
  refine ⟨h1, ?_⟩
  rcases h2 with h2 | ⟨g, cap, cur, hv, hg, r⟩
  · exact .inl h2
  · exact .inr ⟨g, cap, cur, hv, by omega, r⟩
theorem owns_ne {w : World} {base g : Nat} {e t : TypeId} {sz n : Nat} {v : Value} {xs L : List Value} (h : w.ownsRow base e sz v n xs) (hg : Own w g t L) (hne : e ≠ t) : v.ownBlock ≠ some g := by
  rcases h.2 with ⟨rfl, _⟩ | ⟨g', cap, cur, rfl, _, hh, _⟩
  · simp [Value.ownBlock]
  · intro he
    have : g' = g := by simpa [Value.ownBlock] using he
    subst this
    exact Own.ne (t := e) (L := cur.toList) (by unfold Own; simpa using hh) hg hne rfl
theorem owns_ne2 {w : World} {base base' : Nat} {e t : TypeId} {sz n sz' n' : Nat} {v v' : Value} {xs L : List Value} (h : w.ownsRow base e sz v n xs) (h' : w.ownsRow base' t sz' v' n' L) (hne : e ≠ t) {g : Nat} (hg : v.ownBlock = some g) : v'.ownBlock ≠ some g := by
  rcases h.2 with ⟨rfl, _⟩ | ⟨g', cap, cur, rfl, _, hh, _⟩
  · simp [Value.ownBlock] at hg
  · have : g' = g := by simpa [Value.ownBlock] using hg
    subst this
    exact owns_ne (L := cur.toList) h' (by unfold Own; simpa using hh) (Ne.symm hne)
theorem owns_lt {w : World} {base : Nat} {e : TypeId} {sz n : Nat} {v : Value} {xs : List Value} (h : w.ownsRow base e sz v n xs) {g : Nat} (hg : v.ownBlock = some g) : g < w.heap.size := (World.ownsRow.lt h g hg).2
theorem owns_ge {w : World} {base : Nat} {e : TypeId} {sz n : Nat} {v : Value} {xs : List Value} (h : w.ownsRow base e sz v n xs) {g : Nat} (hg : v.ownBlock = some g) : base ≤ g := (World.ownsRow.lt h g hg).1

/-- append(s, x...), of whatever elements. -/
theorem run_appG {X : Nat → Prop} {t e ty : TypeId} {z : Value} {sz by' : Nat} (hu : Try.prog.underlying t = some (.slice e)) (hinf : (Try.prog.info? e).map (fun i => (i.zero, i.size, i.bytes)) = some (some z, sz, by')) (hzs : z.cells.size = sz) (hsz : 0 < sz)
    (w : World) (base : Nat) (v : Value) (n : Nat) (xs : List Value) (hown : w.ownsRow base e sz v n xs) (A : Option Addr) (m c : Nat) (news : List Value) (hl : news.length = m * sz) (hr : RdV X w A news) (h1 : ∀ u ∈ news, u.oneCell' = true)
    (hlen : n + m ≤ maxLen) (hby : (n + m) * by' ≤ 140737488355328) (hbase : base ≤ w.heap.size) :
    ∃ v' w', (Builtin.append_ #[t, t] ty #[v, .slice A m c]).run Try.prog w = .ok v' w' ∧ w'.ownsRow base e sz v' (n + m) (xs ++ news) ∧ w.grownBy w' v.ownBlock ∧ (v'.ownBlock = v.ownBlock ∨ v'.ownBlock = some w.heap.size) := by
  obtain ⟨i, hi, hz, hs, hb⟩ := info_parts hinf
  rcases A with _ | ad
  · have hn : news = [] := by
      cases news with
      | nil => rfl
      | cons u news => obtain ⟨_, h, _⟩ := hr 0 u (by simp); cases h
    subst hn
    have hm : m = 0 := by
      rcases Nat.eq_zero_or_pos m with h | h
      · exact h
      · have := Nat.mul_pos h hsz; simp at hl; omega
    subst hm
    refine ⟨v, w, ?_, by simpa using hown, ⟨rfl, rfl, rfl, Nat.le_refl _, fun _ _ _ => rfl⟩, .inl rfl⟩
    rcases hown.2 with ⟨rfl, h0⟩ | ⟨g, cap, cur, rfl, _, _, hnc, _⟩
    · subst h0
      simp [Builtin.append_, run_underlying hu, sizeOf, typeInfo, hi, Builtin.lenOf, Builtin.firstCells]
    · simp [Builtin.append_, run_underlying hu, sizeOf, typeInfo, hi, Builtin.lenOf, Builtin.firstCells, hnc, storeCells]
  · have hnews : ∀ j u, news[j]? = some u → w.cell? (ad.add j) = some u := fun j u hu => by
      obtain ⟨ad', e', _, hc⟩ := hr j u hu
      have e' := Option.some.inj e'
      subst e'
      exact hc
    obtain ⟨v', w', hrun, h2, h3, _, h5⟩ := run_append_own_at (P := Try.prog) w base t ty e i z sz by' hu hi hz hs hb hzs hsz v n xs hown ad m c news hl hnews h1 hlen hby hbase
    exact ⟨v', w', hrun, h2, h3, h5⟩

theorem wpList_appG {X : Nat → Prop} {t e : TypeId} {z : Value} {sz by' : Nat} (hu : Try.prog.underlying t = some (.slice e)) (hinf : (Try.prog.info? e).map (fun i => (i.zero, i.size, i.bytes)) = some (some z, sz, by')) (hzs : z.cells.size = sz) (hsz : 0 < sz)
    {ops : Array Oper} {rest : List Oper} {o : Oper} {a : Act} {Q : Exit → Act → World → Prop} {w : World} (hgd : o.guard = none) (s x : Operand)
    (ho : o.op = .call { callee := .builtin .append, args := #[s, x], argTypes := #[t, t] }) (base : Nat) (v : Value) (n : Nat) (xs : List Value) (hs : a.eval s = v) (hown : w.ownsRow base e sz v n xs)
    (A : Option Addr) (m c : Nat) (news : List Value) (hx : a.eval x = .slice A m c) (hl : news.length = m * sz) (hr : RdV X w A news) (h1 : ∀ u ∈ news, u.oneCell' = true) (hlen : n + m ≤ maxLen) (hby : (n + m) * by' ≤ 140737488355328) (hbase : base ≤ w.heap.size)
    (h : ∀ v' w', w'.ownsRow base e sz v' (n + m) (xs ++ news) → w.grownBy w' v.ownBlock → (v'.ownBlock = v.ownBlock ∨ v'.ownBlock = some w.heap.size) → wpList Try.prog ops Q rest (a.put o.dst v') w') : wpList Try.prog ops Q (o :: rest) a w := by
  obtain ⟨v', w', hrun, h2, h3, h4⟩ := run_appG (ty := o.type) hu hinf hzs hsz w base v n xs hown A m c news hl hr h1 hlen hby hbase
  exact Lib.wpList_append_run w hgd s x _ _ ho _ _ hs hx v' w' hrun (h v' w' h2 h3 h4)

/-- Bytes that are read, in blocks of X. -/
def RdX (X : Nat → Prop) (w : World) (A : Option Addr) (l : List Int) : Prop := IsBytes l ∧ RdV X w A (l.map (Value.int .u8))
theorem map_u8_get {l : List Int} {j : Nat} (hj : j < l.length) : (l.map (Value.int .u8))[j]? = some (.int .u8 (l.getD j 0)) := by
  simp [List.getElem?_eq_getElem hj, List.getD_eq_getElem?_getD]
section
variable {X : Nat → Prop} {w w' : World} {A : Option Addr} {l : List Int} {B : Nat}
theorem RdX.rd (h : RdX X w A l) : Rd w w.heap.size A l := ⟨h.1, fun j hj => by
  obtain ⟨ad, e, _, hc⟩ := h.2 j _ (map_u8_get hj)
  have hb := World.block_lt_of_cell? w _ hc
  rw [addBlock] at hb
  exact ⟨ad, e, hb, hc⟩⟩
theorem Rd.rx (h : Rd w B A l) : RdX (· < B) w A l := ⟨h.1, fun j u hu => by
  rw [List.getElem?_map] at hu
  obtain ⟨y, hy, rfl⟩ := Option.map_eq_some_iff.1 hu
  have hj : j < l.length := (List.getElem?_eq_some_iff.1 hy).1
  obtain ⟨ad, e, hb, hc⟩ := h.2 j hj
  refine ⟨ad, e, hb, ?_⟩
  rw [hc, List.getD_eq_getElem?_getD, hy]; rfl⟩
theorem RdX.chg {S : Nat → Prop} (h : RdX X w A l) (hc : Chg S w w') (hs : ∀ k, k < w.heap.size → X k → ¬ S k) : RdX X w' A l := ⟨h.1, h.2.chg hc hs⟩
theorem RdX.drewN (h : RdX X w A l) (n : Nat) : RdX X (w.drewN n) A l := ⟨h.1, h.2.drewN n⟩
theorem RdX.later (h : RdX X w A l) (hc : Below w.heap.size w w') : RdX X w' A l := ⟨h.1, h.2.later hc⟩
theorem RdX.mono {Y : Nat → Prop} (h : RdX X w A l) (hx : ∀ k, k < w.heap.size → X k → Y k) : RdX Y w A l := ⟨h.1, h.2.mono hx⟩
theorem RdX.nil (X : Nat → Prop) (w : World) (A : Option Addr) : RdX X w A [] := ⟨IsBytes.nil, RdV.nil _ _ _⟩
end
theorem IsBytes.take {l : List Int} (h : IsBytes l) (k : Nat) : IsBytes (l.take k) := fun z hz => h z (List.mem_of_mem_take hz)
theorem IsBytes.drop {l : List Int} (h : IsBytes l) (k : Nat) : IsBytes (l.drop k) := fun z hz => h z (List.mem_of_mem_drop hz)
theorem OwnB.rdX {w : World} {base : Nat} {v : Value} {l : List Int} (h : OwnB w base v l) (hl : IsBytes l) : ∃ A c, v = .slice A l.length c ∧ l.length ≤ c ∧ c ≤ maxLen ∧ RdX (fun k => v.ownBlock = some k) w A l := by
  obtain ⟨A, c, h1, h2, h3, h4⟩ := RdV.of_own h
  exact ⟨A, c, h1, h2, h3, hl, h4⟩
theorem OwnB.chg {S : Nat → Prop} {w w' : World} {base : Nat} {v : Value} {l : List Int} (h : OwnB w base v l) (hc : Chg S w w') (hg : ∀ g, v.ownBlock = some g → ¬ S g) : OwnB w' base v l := owns_chg h hc hg

/-- append(s, x...) of bytes: where the row lies then. -/
theorem wpList_appB {X : Nat → Prop} {ops : Array Oper} {rest : List Oper} {o : Oper} {a : Act} {Q : Exit → Act → World → Prop} {w : World} (hgd : o.guard = none) (s x : Operand)
    (ho : o.op = .call { callee := .builtin .append, args := #[s, x], argTypes := #[44, 44] }) (base : Nat) (v : Value) (l : List Int) (hs : a.eval s = v) (hown : OwnB w base v l)
    (A : Option Addr) (m c : Nat) (news : List Int) (hx : a.eval x = .slice A m c) (hm : m = news.length) (hr : RdX X w A news) (hlen : l.length + m ≤ 1000000000) (hbase : base ≤ w.heap.size)
    (h : ∀ v' w', OwnB w' base v' (l ++ news) → w.grownBy w' v.ownBlock → (v'.ownBlock = v.ownBlock ∨ v'.ownBlock = some w.heap.size) → wpList Try.prog ops Q rest (a.put o.dst v') w') : wpList Try.prog ops Q (o :: rest) a w := by
  subst hm
  refine wpList_appG under_bytes byte_info rfl (by omega) hgd s x ho base v l.length _ hs hown A news.length c (news.map (Value.int .u8)) hx (by simp) hr.2 (fun u hu => by obtain ⟨z, _, rfl⟩ := List.mem_map.1 hu; rfl) (by simp only [maxLen]; omega) (by omega) hbase fun v' w' h1 h2 h3 => h v' w' ?_ h2 h3
  unfold OwnB
  simpa using h1
end Go.Proofs.Ytdngkbagfaeplaa
