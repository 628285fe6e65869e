/- The statements' own 'same': two lists of lists that are the same. -/
import Derived.Test.YtcblpnojilfidaaLists
import Derived.Deep.QuietTactic
import Derived.BigQuiet
namespace Go.Proofs.Ytcblpnojilfidaa
open Go.RowKit
set_option linter.unusedVariables false

/-- A call that leaves the world as it is, met behind some draws. -/
theorem quietL {P : Program} {f : FuncId} {args : Array Value} {w : World} {n : Nat} {v : Value} (h : Calls P f args (w.drewN n) fun e w' => e = .returned v ∧ w.drewN n = w') :
    Calls P f args (w.drewN n) fun e w' => e = .returned v ∧ ∃ m, w' = w.drewN m := h.mono fun _ _ ⟨he, hm⟩ => ⟨he, n, hm.symm⟩
theorem strEq_refl (l : List Int) : ((strOfNums l).toList == (strOfNums l).toList) = true := by simp
theorem strNe_refl (l : List Int) : ((strOfNums l).toList != (strOfNums l).toList) = false := by simp

def SamePost (w : World) (e : Ending) (w' : World) : Prop := e = .returned (.bool true) ∧ ∃ n, w' = w.drewN n

set_option maxHeartbeats 1000000 in
theorem same_any {X Y : Nat → Prop} (a b : Value) (ls : List (List Int)) (w : World) (ha : RdL X w a ls) (hb : RdL Y w b ls) :
    Calls Try.prog 11 #[a, b] w fun e w' => e = .returned (.bool true) ∧ ∃ n, w' = w.drewN n := by
  suffices h : Calls Try.prog 11 #[a, b] w (SamePost w) from h
  have HA := Lib.hid ha
  have HB := Lib.hid hb
  obtain ⟨A, c, _, rfl, h1, h2, _, _⟩ := ha
  obtain ⟨B, d, _, rfl, h3, h4, _, _⟩ := hb
  generalize hn : ls.length = n at *
  have HN := Lib.hid hn
  clear hn
  unfold maxLen at h2 h4
  go_enter Try.func11, Try.ntmps11
  go_wp2
  go_loopw [5] (fun i wr => ∃ k q : Nat, k ≤ n ∧ i = .int .i64 k ∧ Hid (wr = w.drewN q)) (fun i _ => n - (intOf i).toNat)
  case atStart => exact ⟨0, 0, by omega, rfl, rfl⟩
  case round =>
    obtain ⟨k, q, hk, rfl, HW⟩ := hrel
    have hw := HW.out
    subst hw
    clear HW
    by_cases hlt : k < n
    · obtain ⟨b1, o1, B1, d1, rfl, _, hb1, hc1, _, _, hr1⟩ := HA.out.at_ (j := k) (by rw [HN.out]; exact hlt)
      obtain ⟨b2, o2, B2, d2, rfl, _, hb2, hc2, _, _, hr2⟩ := HB.out.at_ (j := k) (by rw [HN.out]; exact hlt)
      generalize ls.getD k [] = x at *
      have hs1 : ∀ m, (convert 27 9 (.slice B1 x.length d1)).run Try.prog (w.drewN m) = .ok (.string (strOfNums x)) (w.drewN m) := fun m => Rd.string (w := w.drewN m) hr1.rd d1
      have hs2 : ∀ m, (convert 27 9 (.slice B2 x.length d2)).run Try.prog (w.drewN m) = .ok (.string (strOfNums x)) (w.drewN m) := fun m => Rd.string (w := w.drewN m) hr2.rd d2
      generalize x.length = xl at *
      have he := strNe_refl x
      clear hr1 hr2
      go_wp2
      go_quiet (fail)
      go_wp2
      exact ⟨⟨k + 1, q + nq, by omega, by go_num, rfl⟩, by simp [intOf]; omega⟩
    · go_wp2
      go_ret
      exact ⟨rfl, q, rfl⟩
end Go.Proofs.Ytcblpnojilfidaa
