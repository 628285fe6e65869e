/- sect: the reader of sections: its parts. -/
import Derived.Test.YtgbjlcedabkdkaaDoorSectMath
import Derived.Test.YtgbjlcedabkdkaaDoorReader
import Derived.Test.YtgbjlcedabkdkaaDoorUtf8Cut
import Derived.Shelf.Strings.Search1
namespace Go.Proofs.YtgbjlcedabkdkaaDoor
open Go.RowKit
set_option maxRecDepth 100000
set_option linter.unusedVariables false

theorem rbytesX_any (g : Nat) (t : TypeId) (tl : RTl) (s : St) (n : Nat) (w : World) (h : RdrAt w g t tl s) (hn : n ≤ 4294967295) :
    Calls Tryd.prog 26 #[.pointer (some ⟨g, 0, none⟩), .int .i64 n] w (BPost (pBytes n) g t tl s w) := by
  by_cases hm : n ≤ 1000000
  · exact rbytes_any g t tl s n w h hm
  have HL := Lib.hid (rleft_any g t tl s w h)
  have HF := Lib.hid (rfail_any g t tl s 3 w h (by omega) (by omega))
  have hn0 : ¬ (n : Int) < 0 := by omega
  have hs : (lenS s : Int) < n := by
    cases s with
    | error e => simp only [lenS]; omega
    | ok l => obtain ⟨A, c, r, _, _, _, _, hlm, _⟩ := h; simp only [lenS]; omega
  clear h
  go_enter Tryd.func26, Tryd.ntmps26
  go_wp2_with (go_at_call 16; refine HL.out.mono ?_; rintro e w' ⟨rfl, rfl⟩; clear HL)
  refine HF.out.mono ?_
  rintro e w2 ⟨⟨u, rfl⟩, h2, hc⟩
  have HC := Lib.hid (And.intro h2 hc)
  clear h2 hc
  go_wp2
  go_ret
  have key : nx (pBytes n) s = failS 3 s ∧ ∀ a l', bd s (pBytes n) ≠ .ok (a, l') := by
    cases s with
    | error e => exact ⟨rfl, fun a l' h => by cases h⟩
    | ok l =>
      simp only [lenS] at hs
      have : ¬ n ≤ l.length := by omega
      simp [nx_ok, pBytes, this, failS]
  exact ⟨_, [], rfl, OwnB.nil _ _, IsBytes.nil, by rw [key.1]; exact HC.out.1, (fun a l' h => (key.2 a l' h).elim), HC.out.2, by simp⟩
theorem bd_seq {α β : Type} {s : St} {p : PR α} {f : α → PR β} {r : β × List Int} (h : bd s (seq p f) = .ok r) : ∃ a l1, bd s p = .ok (a, l1) ∧ f a l1 = .ok r ∧ nx p s = .ok l1 := by
  cases s with
  | error e => cases h
  | ok l =>
    rw [bd_ok] at h
    obtain ⟨a, l1, h1, h2⟩ := seq_ok (b := r.1) (l' := r.2) (by rw [h])
    exact ⟨a, l1, h1, by rw [h2], by rw [nx_ok, h1]; rfl⟩
theorem nx_seq' {α β : Type} {s : St} {p : PR α} {f : α → PR β} {x : α} (h : ∀ a l', bd s p = .ok (a, l') → x = a) : nx (seq p f) s = nx (f x) (nx p s) := by
  cases s with
  | error e => rfl
  | ok l =>
    rw [nx_ok, nx_ok]
    unfold seq
    cases hp : p l with
    | error e => rfl
    | ok r => rw [h r.1 r.2 (by rw [bd_ok, hp])]; rfl
theorem rsized_any (g : Nat) (t : TypeId) (tl : RTl) (s : St) (w : World) (h : RdrAt w g t tl s) :
    Calls Tryd.prog 29 #[.pointer (some ⟨g, 0, none⟩)] w (BPost pSized g t tl s w) := by
  have HU := Lib.hid (rU32_any g t tl s w h)
  clear h
  go_enter Tryd.func29, Tryd.ntmps29
  go_wp2_with (go_at_call 38; refine HU.out.mono ?_; rintro e w1 ⟨x, rfl, h0, h1, h2, h3, h4⟩; obtain ⟨n, rfl⟩ : ∃ n : Nat, x = n := ⟨x.toNat, by omega⟩; have HN := Lib.hid (rbytesX_any g t tl _ n w1 h2 (by omega)); have H3 := Lib.hid (And.intro h3 h4); clear h2 h3 h4; have hw1 : IntKind.i64.wrap (n : Int) = n := by rw [IntKind.wrap_i64]; omega)
  refine HN.out.mono ?_
  rintro e w2 ⟨v, y, rfl, p1, p2, p3, p4, p5, p6⟩
  have HP := Lib.hid (And.intro p1 (And.intro p2 (And.intro p3 (And.intro p4 (And.intro p5 p6)))))
  clear p1 p2 p3 p4 p5 p6
  go_wp2
  go_ret
  obtain ⟨p1, p2, p3, p4, p5, p6⟩ := HP.out
  obtain ⟨h3, h4⟩ := H3.out
  refine ⟨v, y, rfl, owns_base p1 h4.size, p2, ?_, fun a l' h => ?_, h4.trans p5 fun k _ e => e, p6⟩
  · unfold pSized
    rw [nx_seq' (x := (n : Int)) h3]
    exact p3
  · obtain ⟨m, l1, q1, q2, q3⟩ := bd_seq h
    have := h3 m l1 q1
    subst this
    exact p4 a l' (by rw [q3, bd_ok]; exact q2)
/-- The IDs that may still come, as a string. -/
def mayS (k : Nat) : ByteArray := strOfNums (secOrder.drop k)
def idxS (k : Nat) (id : Int) : Int := match placeIn k id with
  | none => -1
  | some k' => (k' : Int) - k - 1
theorem idx_all : ∀ k : Fin 13, ∀ x : Fin 256, Lib.indexByte (mayS k.val).data.toList ((x.val : Int).toNat.toUInt8) = idxS k.val (x.val : Int) := by decide +kernel
theorem may_size : ∀ k : Fin 13, (mayS k.val).size = 12 - k.val := by decide +kernel
theorem may_cut : ∀ k : Fin 13, ∀ p : Fin 13, k.val + p.val ≤ 12 → ((mayS k.val).extract p.val (mayS k.val).size) = mayS (k.val + p.val) := by decide +kernel
theorem sIdx_any (k : Nat) (x : Int) (w : World) (hk : k ≤ 12) (h0 : 0 ≤ x) (h1 : x ≤ 255) :
    Calls Tryd.prog 37 #[.string (mayS k), .int .u8 x] w fun e w' => e = .returned (.int .i64 (idxS k x)) ∧ w = w' := by
  have hi := idx_all ⟨k, by omega⟩ ⟨x.toNat, by omega⟩
  rw [show (((⟨x.toNat, by omega⟩ : Fin 256).val : Nat) : Int) = x from by simp; omega] at hi
  simp only at hi
  rw [← hi]
  generalize mayS k = m
  clear hi
  go_enter Tryd.func37, Tryd.ntmps37
  go_wp2
  rw [run_callFunc_extern Tryd.func46 (by kernel_rfl) (by kernel_rfl) (by kernel_rfl) (e := Extern.BytealgIndexByte.indexByte) (by kernel_rfl), Lib.run_indexByteString]
  simp only [Result.andThen]
  rw [Oper.upon_value]
  go_wp2
  go_ret
  exact ⟨rfl, rfl⟩
end Go.Proofs.YtgbjlcedabkdkaaDoor
