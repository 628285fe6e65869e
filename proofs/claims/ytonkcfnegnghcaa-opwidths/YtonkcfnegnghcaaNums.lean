/- Slices of numbers of 64 bits, and strings that are appended: what the walks lean on. No function of the program. -/
import Derived.Test.YtonkcfnegnghcaaMem
import Derived.Lib.AppendStr
import Derived.Lib.LazyBuf
namespace Go.Proofs.Ytonkcfnegnghcaa
open Go.RowKit
set_option maxRecDepth 100000
set_option linter.unusedVariables false

def IsU64 (l : List Int) : Prop := ∀ z ∈ l, 0 ≤ z ∧ z < 18446744073709551616
theorem IsU64.nil : IsU64 [] := fun z hz => by simp at hz
theorem IsU64.app {a b : List Int} (ha : IsU64 a) (hb : IsU64 b) : IsU64 (a ++ b) := fun z hz => by
  rcases List.mem_append.1 hz with h | h
  · exact ha z h
  · exact hb z h
theorem IsU64.one {z : Int} (h0 : 0 ≤ z) (h1 : z < 18446744073709551616) : IsU64 [z] := fun y hy => by simp at hy; subst hy; exact ⟨h0, h1⟩
/-- Numbers that are read, in blocks of X. -/
def RdU (X : Nat → Prop) (w : World) (A : Option Addr) (l : List Int) : Prop := IsU64 l ∧ RdV X w A (l.map (Value.int .u64))
section
variable {X : Nat → Prop} {w w' : World} {A : Option Addr} {l : List Int} {B : Nat}
theorem RdU.chg {S : Nat → Prop} (h : RdU X w A l) (hc : Chg S w w') (hs : ∀ k, k < w.heap.size → X k → ¬ S k) : RdU X w' A l := ⟨h.1, h.2.chg hc hs⟩
theorem RdU.drewN (h : RdU X w A l) (n : Nat) : RdU X (w.drewN n) A l := ⟨h.1, h.2.drewN n⟩
theorem RdU.later (h : RdU X w A l) (hc : Below w.heap.size w w') : RdU X w' A l := ⟨h.1, h.2.later hc⟩
theorem RdU.mono {Y : Nat → Prop} (h : RdU X w A l) (hx : ∀ k, k < w.heap.size → X k → Y k) : RdU Y w A l := ⟨h.1, h.2.mono hx⟩
theorem RdU.nil (X : Nat → Prop) (w : World) (A : Option Addr) : RdU X w A [] := ⟨IsU64.nil, RdV.nil _ _ _⟩
theorem map_u64_get {j : Nat} (hj : j < l.length) : (l.map (Value.int .u64))[j]? = some (.int .u64 (l.getD j 0)) := by
  simp [List.getElem?_eq_getElem hj, List.getD_eq_getElem?_getD]
theorem RdU.at_ (h : RdU X w A l) {j : Nat} (hj : j < l.length) : ∃ b o, A = some ⟨b, o, none⟩ ∧ w.cell? ⟨b, o + j, none⟩ = some (.int .u64 (l.getD j 0)) ∧ 0 ≤ l.getD j 0 ∧ l.getD j 0 < 18446744073709551616 := by
  obtain ⟨b, o, hA, hX, hlt, hc⟩ := h.2.spot (by simp; omega)
  refine ⟨b, o, hA, hc j _ (map_u64_get hj), h.1 _ ?_⟩
  rw [List.getD_eq_getElem?_getD, List.getElem?_eq_getElem hj]; exact List.getElem_mem hj
end
/-- What grew by appending: of the old blocks its own alone may have turned. -/
def Grew (v : Value) (w : World) (v' : Value) (w' : World) : Prop := Chg (fun k => v.ownBlock = some k) w w' ∧ ∀ k, v'.ownBlock = some k → v.ownBlock = some k ∨ w.heap.size ≤ k
theorem Grew.refl (v : Value) (w : World) : Grew v w v w := ⟨Chg.refl _ _, fun k h => .inl h⟩
theorem Grew.trans {v v1 v2 : Value} {w w1 w2 : World} (h1 : Grew v w v1 w1) (h2 : Grew v1 w1 v2 w2) : Grew v w v2 w2 := by
  have hs := h1.1.size
  refine ⟨h1.1.trans h2.1 fun k hk e => ?_, fun k hk => ?_⟩
  · rcases h1.2 k e with h | h
    · exact h
    · omega
  · rcases h2.2 k hk with h | h
    · exact h1.2 k h
    · exact .inr (by omega)
theorem Grew.of_grown {v v' : Value} {w w' : World} (h : w.grownBy w' v.ownBlock) (h2 : v'.ownBlock = v.ownBlock ∨ v'.ownBlock = some w.heap.size) : Grew v w v' w' := by
  refine ⟨(Chg.of_grown h).mono fun k _ e => e.symm, fun k hk => ?_⟩
  rcases h2 with e | e
  · exact .inl (by rw [← e]; exact hk)
  · rw [e] at hk; injection hk with hk; exact .inr (by omega)
theorem Grew.before {v v' : Value} {w0 w w' : World} (h : Grew v w v' w') (hb : Below w0.heap.size w0 w) (hv : ∀ k, v.ownBlock = some k → k < w0.heap.size) : Grew v w0 v' w' := by
  have hs := hb.size
  refine ⟨(Chg.of_below (S := fun k => v.ownBlock = some k) hb).trans h.1 fun k _ e => e, fun k hk => ?_⟩
  rcases h.2 k hk with e | e
  · exact .inl e
  · exact .inr (by omega)
theorem Grew.after {v v' : Value} {w w' w2 : World} (h : Grew v w v' w') (hb : Below w'.heap.size w' w2) : Grew v w v' w2 := ⟨h.1.trans (Chg.of_below (S := fun _ => False) hb) fun _ _ e => e.elim, h.2⟩
theorem Grew.below {v v' : Value} {w w' : World} {B : Nat} (h : Grew v w v' w') (hB : B ≤ w.heap.size) (hv : ∀ k, v.ownBlock = some k → B ≤ k) : Below B w w' := h.1.below hB fun k hk e => by have := hv k e; omega
theorem OwnB.lt {w : World} {base : Nat} {v : Value} {l : List Int} (h : OwnB w base v l) {k : Nat} (hk : v.ownBlock = some k) : k < w.heap.size := owns_lt h hk

theorem rdX_lit (w : World) (l : List Int) (hl : IsBytes l) : RdX (fun k => k = w.heap.size) (w.alloc (.cells (l.map (Value.int .u8)).toArray 5)) (some ⟨w.heap.size, 0, none⟩) l := by
  refine ⟨hl, fun j u hu => ⟨_, rfl, by simp, ?_⟩⟩
  have h := (Own.new w 5 (l.map (Value.int .u8))).cell j
  rw [addPlain, Nat.zero_add, h, hu]
theorem strCells_nums (l : List Int) (hl : IsBytes l) : Lib.strCells (strOfNums l) = l.map (Value.int .u8) := by
  simp only [Lib.strCells, strOfNums_data, List.map_map]
  apply List.map_congr_left
  intro z hz
  obtain ⟨h0, h1⟩ := hl z hz
  simp only [Function.comp]
  rw [UInt8.toNat_ofNat_of_lt' (by simp; omega)]
  congr 1; omega
end Go.Proofs.Ytonkcfnegnghcaa
