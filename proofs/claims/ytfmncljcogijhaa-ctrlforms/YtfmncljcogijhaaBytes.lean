/- Slices of bytes in memory: what the walks lean on. No function of the program. -/
import Derived.Test.YtfmncljcogijhaaRows
import Derived.WalkKit
import Derived.ProofKit
import Derived.WalkSpells
import Derived.WalkLawsBesides
import Derived.Below
import Derived.Lib.Hide
import Derived.Laws.CopyOwn
import Derived.Laws.BytesArg
import Derived.Laws.Rows
import Derived.Deep.OwnRows
namespace Go.Proofs.Ytfmncljcogijhaa
open Go.RowKit
set_option maxRecDepth 100000
set_option linter.unusedVariables false

theorem under_bytes : Try.prog.underlying 22 = some (.slice 5) := Try.underlying22
theorem under_byte : Try.prog.underlying 5 = some (.int .u8) := Try.underlying5
theorem under_string : Try.prog.underlying 9 = some .string := Try.underlying9
theorem byte_info : (Try.prog.info? 5).map (fun i => (i.zero, i.size, i.bytes)) = some (some (.int .u8 0), 1, 1) := by kernel_rfl
theorem byte_size : (Try.prog.info? 5).map (·.size) = some 1 := by kernel_rfl

/-- The slice of that address holds the bytes l, below block B. -/
def Rd (w : World) (B : Nat) (A : Option Addr) (l : List Int) : Prop :=
  (∀ z ∈ l, 0 ≤ z ∧ z ≤ 255) ∧ ∀ j, j < l.length → ∃ ad, A = some ad ∧ ad.block < B ∧ w.cell? (ad.add j) = some (.int .u8 (l.getD j 0))

theorem addBlock (a : Addr) (n : Nat) : (a.add n).block = a.block := by unfold Addr.add; split <;> rfl
theorem addZero (a : Addr) : a.add 0 = a := by unfold Addr.add; simp
theorem addPlain (b o j : Nat) : (⟨b, o, none⟩ : Addr).add j = ⟨b, o + j, none⟩ := by unfold Addr.add; split <;> simp_all

section
variable {w w' : World} {B B' : Nat} {A : Option Addr} {l : List Int}
theorem Rd.byte (h : Rd w B A l) {k : Nat} (hk : k < l.length) : 0 ≤ l.getD k 0 ∧ l.getD k 0 ≤ 255 :=
  h.1 _ (by rw [List.getD_eq_getElem?_getD, List.getElem?_eq_getElem hk]; simp)
theorem Rd.nil (w : World) (B : Nat) (A : Option Addr) : Rd w B A [] := ⟨by simp, fun j h => by simp at h⟩
theorem Rd.keep (h : Rd w B A l) (hk : ∀ p : Addr, p.block < B → w'.cell? p = w.cell? p) : Rd w' B A l :=
  ⟨h.1, fun j hj => by
    obtain ⟨ad, e, hb, hc⟩ := h.2 j hj
    exact ⟨ad, e, hb, by rw [hk _ (by rw [addBlock]; exact hb)]; exact hc⟩⟩
theorem Rd.more (h : Rd w B A l) (hB : B ≤ B') : Rd w B' A l :=
  ⟨h.1, fun j hj => by
    obtain ⟨ad, e, hb, hc⟩ := h.2 j hj
    exact ⟨ad, e, by omega, hc⟩⟩
theorem Rd.below (h : Rd w B A l) (hb : Below B w w') : Rd w' B A l := h.keep fun _ hp => hb.cell hp
/-- Carried into a later world. -/
theorem Rd.later (h : Rd w w.heap.size A l) (hb : Below w.heap.size w w') : Rd w' w'.heap.size A l := (h.below hb).more hb.size

theorem Rd.spot (h : Rd w B A l) {j : Nat} (hj : j < l.length) : ∃ b o, A = some ⟨b, o, none⟩ ∧ b < B ∧ ∀ i, i < l.length → w.cell? ⟨b, o + i, none⟩ = some (.int .u8 (l.getD i 0)) := by
  obtain ⟨⟨b, o, sp⟩, rfl, hb, hc⟩ := h.2 0 (by omega)
  rw [addZero] at hc
  have hs : sp = none := by simpa using World.cell?_spot hc
  subst hs
  refine ⟨b, o, rfl, hb, fun i hi => ?_⟩
  obtain ⟨ad, e, _, hci⟩ := h.2 i hi
  injection e with e
  subst e
  rw [addPlain] at hci
  exact hci

theorem Rd.take (h : Rd w B A l) (k : Nat) : Rd w B A (l.take k) :=
  ⟨fun z hz => h.1 z (List.mem_of_mem_take hz), fun j hj => by
    obtain ⟨ad, e, hb, hc⟩ := h.2 j (by simp at hj; omega)
    refine ⟨ad, e, hb, ?_⟩
    rw [hc]
    have : j < k := by simp at hj; omega
    simp [List.getD_eq_getElem?_getD, List.getElem?_take_of_lt this]⟩

/-- The string of those bytes. -/
theorem Rd.string (h : Rd w B A l) (c : Nat) : (convert 22 9 (.slice A l.length c)).run Try.prog w = .ok (.string (strOfNums l)) w := by
  rcases Nat.eq_zero_or_pos l.length with h0 | h0
  · obtain rfl : l = [] := List.eq_nil_of_length_eq_zero h0
    rcases A with _ | ⟨b, o, sp⟩
    · exact run_convert_bytes_nil w _ _ under_bytes under_byte _ _ _ under_string
    · have hl : (loadCells (⟨b, o, sp⟩ : Addr) 0).run Try.prog w = .ok (([] : List Int).map (Value.int .u8)).toArray w := by
        have := run_loadCells_list (P := Try.prog) w ⟨b, o, sp⟩ [] (fun j v hj => by simp at hj)
        simpa using this
      rw [run_convert_bytes_string w _ _ _ _ _ _ under_bytes under_byte under_string]
      exact run_bytesToString w _ 0 c [] hl
  · obtain ⟨b, o, rfl, _, hc⟩ := h.spot h0
    exact run_convert_bytes_arg w _ _ under_bytes under_byte b o l.length c l rfl hc _ under_string
end

theorem strOfNums_eq {a b : List Int} (ha : ∀ z ∈ a, 0 ≤ z ∧ z ≤ 255) (hb : ∀ z ∈ b, 0 ≤ z ∧ z ≤ 255) : ((strOfNums a).toList == (strOfNums b).toList) = decide (a = b) := by
  have e : ∀ l : List Int, (strOfNums l).toList = l.map fun n => UInt8.ofNat n.toNat := fun l => by
    rw [ByteArray.toList_eq]; rfl
  rw [e, e, Bool.eq_iff_iff]
  simp only [beq_iff_eq, decide_eq_true_eq]
  constructor
  · intro h
    induction a generalizing b with
    | nil => cases b with
      | nil => rfl
      | cons y b => simp at h
    | cons x a ih => cases b with
      | nil => simp at h
      | cons y b =>
        simp only [List.map_cons, List.cons.injEq] at h
        have hx := ha x (by simp)
        have hy := hb y (by simp)
        have h1 : x.toNat = y.toNat := by
          have := congrArg UInt8.toNat h.1
          simpa [UInt8.toNat_ofNat', Nat.mod_eq_of_lt (show x.toNat < 256 by omega), Nat.mod_eq_of_lt (show y.toNat < 256 by omega)] using this
        rw [ih (fun z hz => ha z (by simp [hz])) (fun z hz => hb z (by simp [hz])) h.2, show x = y by omega]
  · rintro rfl; rfl

/-- A block of the call's own, known whole. -/
def Own (w : World) (g : Nat) (t : TypeId) (L : List Value) : Prop := w.heap[g]? = some (.cells L.toArray t (0, 0))
section
variable {w w' : World} {g : Nat} {t : TypeId} {L : List Value}
theorem Own.lt (h : Own w g t L) : g < w.heap.size := by
  rcases Nat.lt_or_ge g w.heap.size with hlt | hge
  · exact hlt
  · unfold Own at h; rw [Array.getElem?_eq_none hge] at h; cases h
theorem Own.cell (h : Own w g t L) (i : Nat) : w.cell? ⟨g, i, none⟩ = L[i]? := by
  rw [cell_of_row w g i _ t (0, 0) h]; simp
theorem Own.frozen (h : Own w g t L) (i : Nat) : w.frozen? ⟨g, i, none⟩ = false := by
  unfold Own at h
  simp [World.frozen?, h]
theorem Own.set (h : Own w g t L) (i : Nat) (u : Value) : Own (w.setCell ⟨g, i, none⟩ u) g t (L.set i u) := by
  unfold Own at h ⊢
  simp [World.setCell, Array.getElem?_modify, h]
theorem Own.below {B : Nat} (h : Own w g t L) (hb : Below B w w') (hg : g < B) : Own w' g t L := (hb.block g hg).trans h
theorem Own.later (h : Own w g t L) (hb : Below w.heap.size w w') : Own w' g t L := h.below hb h.lt
/-- A block of bytes reads so, from its front on. -/
theorem Own.rd {l : List Int} {tl : List Value} (h : Own w g t (l.map (Value.int .u8) ++ tl)) (hl : ∀ z ∈ l, 0 ≤ z ∧ z ≤ 255) : Rd w w.heap.size (some ⟨g, 0, none⟩) l :=
  ⟨hl, fun j hj => ⟨_, rfl, h.lt, by
    rw [addPlain, h.cell, List.getElem?_append_left (by simpa using by omega)]
    simp [List.getElem?_eq_getElem hj, List.getD_eq_getElem?_getD]⟩⟩
end
end Go.Proofs.Ytfmncljcogijhaa
