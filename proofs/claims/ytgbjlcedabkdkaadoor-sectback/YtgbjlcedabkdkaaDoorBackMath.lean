/- What is joined is split: plain mathematics. -/
import Derived.Test.YtgbjlcedabkdkaaDoorSectSrc
import Derived.Test.YtgbjlcedabkdkaaDoorSectJoin
import Derived.Test.YtgbjlcedabkdkaaDoorLebMath3
namespace Go.Proofs.YtgbjlcedabkdkaaDoor
open Go.RowKit
set_option maxRecDepth 100000
set_option linter.unusedVariables false

def okFrom : Nat → List Sec → Bool
  | _, [] => true
  | k, x :: xs => if x.1 = 0 then okFrom k xs else match placeIn k x.1 with
    | none => false
    | some k' => okFrom k' xs
/-- Where an ID stands among the first k of the order; -1: nowhere. -/
def atU (id : Int) : Nat → Int
  | 0 => -1
  | k + 1 => if secOrder.getD k 0 = id then (k : Int) else atU id k
def atS (id : Int) : Int := atU id 12
def stp (s : Bool × Int) (x : Sec) : Bool × Int := if x.1 = 0 then s else (s.1 && decide (atS x.1 > s.2), max s.2 (atS x.1))
theorem at_all : ∀ k : Fin 13, ∀ x : Fin 256, x.val ≠ 0 → (placeIn k.val (x.val : Int) = if atS (x.val : Int) > (k.val : Int) - 1 then some (atS (x.val : Int) + 1).toNat else none) := by decide +kernel
theorem at_rng : ∀ x : Fin 256, ∀ k : Fin 13, -1 ≤ atU (x.val : Int) k.val ∧ atU (x.val : Int) k.val ≤ 11 := by decide +kernel
theorem stp_false (xs : List Sec) : ∀ L, (xs.foldl stp (false, L)).1 = false := by
  induction xs with
  | nil => intro L; rfl
  | cons x xs ih =>
    intro L
    simp only [List.foldl_cons, stp]
    by_cases h : x.1 = 0
    · rw [if_pos h]; exact ih L
    · rw [if_neg h]; exact ih _
theorem ok_stp (xs : List Sec) : ∀ (k : Nat), k ≤ 12 → (∀ x ∈ xs, 0 ≤ x.1 ∧ x.1 ≤ 255) → okFrom k xs = (xs.foldl stp (true, (k : Int) - 1)).1 := by
  induction xs with
  | nil => intro k _ _; rfl
  | cons x xs ih =>
    intro k hk hb
    obtain ⟨b0, b1⟩ := hb x (by simp)
    simp only [List.foldl_cons, stp, okFrom]
    by_cases h : x.1 = 0
    · rw [if_pos h, if_pos h]; exact ih k hk fun y hy => hb y (by simp [hy])
    · rw [if_neg h, if_neg h]
      have ha := at_all ⟨k, by omega⟩ ⟨x.1.toNat, by omega⟩ (by simp only; omega)
      have hr := at_rng ⟨x.1.toNat, by omega⟩ ⟨12, by omega⟩
      simp only [show ((x.1.toNat : Nat) : Int) = x.1 from by omega] at ha hr
      rw [ha]
      change -1 ≤ atS x.1 ∧ atS x.1 ≤ 11 at hr
      by_cases hg : atS x.1 > (k : Int) - 1
      · simp only [hg, if_true, Bool.true_and, decide_true]
        rw [ih (atS x.1 + 1).toNat (by omega) fun y hy => hb y (by simp [hy])]
        congr 3
        omega
      · simp only [hg, if_false, Bool.true_and, decide_false]
        exact (stp_false xs _).symm
def goodSec (x : Sec) : Prop := 0 ≤ x.1 ∧ x.1 ≤ 255 ∧ IsBytes x.2 ∧ x.2.length ≤ 1000 ∧ (x.1 = 0 → nameOk x.2 = true)
theorem pSized_sec (b rest : List Int) (hb : b.length ≤ 1000) : pSized (encU (b.length : Int) ++ b ++ rest) = .ok (b, rest) := by
  rw [List.append_assoc]
  have h := rdU32_enc (b.length : Int) (b ++ rest) (by omega) (by omega)
  rw [if_pos (by omega)] at h
  have hp := pU_ok h
  unfold pSized seq
  rw [hp]
  simp only [bd_ok]
  rw [Int.toNat_natCast, List.drop_left, show ((b.length : Int) % 2 ^ Int.toNat 32).toNat = b.length from by show ((b.length : Int) % 4294967296).toNat = b.length; omega]
  unfold pBytes
  rw [if_pos (by simp), List.take_left, List.drop_left]
theorem join_split (xs : List Sec) : ∀ (k : Nat) (acc : List Sec), k ≤ 12 → (∀ x ∈ xs, goodSec x) → goSecs k acc (.ok (joinS xs)) = if okFrom k xs then .ok (acc ++ xs) else .error 2 := by
  induction xs with
  | nil => intro k acc _ _; simp [joinS, okFrom, goSecs_nil]
  | cons x xs ih =>
    intro k acc hk hg
    obtain ⟨id, b⟩ := x
    obtain ⟨g0, g1, g2, g3, g4⟩ := hg (id, b) (by simp)
    simp only at g0 g1 g2 g3 g4
    have hj : joinS ((id, b) :: xs) = id :: (encU (b.length : Int) ++ b ++ joinS xs) := by simp [joinS, secB]
    rw [hj]
    have hps := pSized_sec b (joinS xs) g3
    by_cases h0 : id = 0
    · subst h0
      have hp : pSec k (0 :: (encU (b.length : Int) ++ b ++ joinS xs)) = .ok (((0, b), k), joinS xs) := by
        unfold pSec pId seq
        simp only [pByte, bd_ok, if_true, hps, g4 rfl]
        simp
      rw [goSecs_step hk acc (by simp) (x := (0, b)) (k' := k) (by intro r l' h; rw [hp] at h; injection h with h; injection h with h; exact h.symm), nx_ok, hp]
      simp only [bd_ok]
      rw [ih k _ hk fun y hy => hg y (by simp [hy])]
      simp [okFrom]
    · have hokf : okFrom k ((id, b) :: xs) = match placeIn k id with | none => false | some k' => okFrom k' xs := by simp [okFrom, h0]
      rw [hokf]
      cases hpl : placeIn k id with
      | none =>
        have hp : pSec k (id :: (encU (b.length : Int) ++ b ++ joinS xs)) = .error 2 := by
          unfold pSec pId seq
          simp [pByte, h0, hpl]
        unfold goSecs
        rw [bd_ok, show (id :: (encU (b.length : Int) ++ b ++ joinS xs)).length = (encU (b.length : Int) ++ b ++ joinS xs).length + 1 from rfl]
        simp only [pSecs, reduceCtorEq, if_false, hp]
        rfl
      | some k' =>
        have hp : pSec k (id :: (encU (b.length : Int) ++ b ++ joinS xs)) = .ok (((id, b), k'), joinS xs) := by
          unfold pSec pId seq
          simp only [pByte, bd_ok, h0, if_false, hpl, hps]
          simp
        rw [goSecs_step hk acc (by simp) (x := (id, b)) (k' := k') (by intro r l' h; rw [hp] at h; injection h with h; injection h with h; exact h.symm), nx_ok, hp]
        simp only [bd_ok]
        rw [ih k' _ (placeIn_le hk hpl).2.1 fun y hy => hg y (by simp [hy])]
        simp
theorem join_all (xs : List Sec) (hg : ∀ x ∈ xs, goodSec x) : split (secFront ++ joinS xs) = if (xs.foldl stp (true, -1)).1 then .ok xs else .error 2 := by
  rw [split_eq]
  have hf : pFront (secFront ++ joinS xs) = .ok (joinS xs) := by
    unfold pFront
    rw [if_neg (by simp [secFront]), if_pos (by simp [secFront])]
    simp [secFront]
  rw [hf, join_split xs 0 [] (by omega) hg, ok_stp xs 0 (by omega) fun x hx => ⟨(hg x hx).1, (hg x hx).2.1⟩]
  simp
end Go.Proofs.YtgbjlcedabkdkaaDoor
