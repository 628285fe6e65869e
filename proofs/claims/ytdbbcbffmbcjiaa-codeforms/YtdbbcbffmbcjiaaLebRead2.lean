/- What leb's signed readers and their like come to. -/
import Derived.Test.YtdbbcbffmbcjiaaLebRead
namespace Go.Proofs.Ytdbbcbffmbcjiaa
open Go.RowKit
set_option maxRecDepth 100000
set_option linter.unusedVariables false

theorem takeSigned_any (A : Option Addr) (l : List Int) (n c : Nat) (bits : Int) (w : World) (h : Rd w w.heap.size A l) (hn : n = l.length) (hl : n ≤ maxLen) (hb : 1 ≤ bits) (hb2 : bits ≤ 64) :
    Calls Try.prog 112 #[.slice A n c, .int .i64 bits] w fun e w' => e = three .i64 .i64 .i64 (rdS bits l) ∧ w = w' := by
  have HT := Lib.hid (take_any 117 (.inr rfl) fitS A l n c bits w h hn hl hb hb2 (fun g r h1 h2 h3 h4 => signs_any g r w h1 h2 h3 h4))
  have HC := Lib.hid (dec_cases bits fitS hb2 l 0 0 (by omega))
  have HN := Lib.hid hn
  clear hn h
  unfold rdS
  generalize dec bits fitS l 0 0 = d at *
  go_enter Try.func112, Try.ntmps112
  go_wp2_with fail
  refine HT.out.mono ?_
  unfold three
  rintro e w' ⟨rfl, rfl⟩
  clear HT
  rcases HC.out with rfl | rfl | ⟨u, m, rfl, h1, h2, h3, h4, h5⟩
  · clear HC
    go_wp2
    go_ret3
    exact ⟨rfl, rfl⟩
  · clear HC
    go_wp2
    go_ret3
    exact ⟨rfl, rfl⟩
  · clear HC
    by_cases h : (m : Int) * 7 < 64
    · have HX := Lib.hid (sx_lt u m h)
      go_wp2
      go_ret3
      refine ⟨?_, rfl⟩
      have et : (64 - (m : Int) * 7).toNat = 64 - m * 7 := by omega
      simp [three, HX.out, et]
    · have HX := Lib.hid (sx_ge u m (by omega))
      go_wp2
      go_ret3
      refine ⟨?_, rfl⟩
      have eu : IntKind.u64.wrap u = u := by rw [IntKind.wrap_u64]; omega
      simp [three, HX.out, eu]

/-- The number alone turned. -/
def on1 (f : Int → Int) (r : Int × Int × Int) : Int × Int × Int := (f r.1, r.2.1, r.2.2)

theorem U32_any (A : Option Addr) (l : List Int) (n c : Nat) (w : World) (h : Rd w w.heap.size A l) (hn : n = l.length) (hl : n ≤ maxLen) :
    Calls Try.prog 91 #[.slice A n c] w fun e w' => e = three .u32 .i64 .i64 (on1 IntKind.u32.wrap (rdU 32 l)) ∧ w = w' := by
  have HT := Lib.hid (take_any 111 (.inl rfl) fitU A l n c 32 w h hn hl (by omega) (by omega) (fun g r h1 h2 h3 h4 => noughts_any g r w h1 h2 h3 h4))
  clear hn h
  unfold rdU
  generalize dec 32 fitU l 0 0 = d at *
  obtain ⟨d1, d2, d3⟩ := d
  unfold three on1 at *
  go_enter Try.func91, Try.ntmps91
  go_wp2_with fail
  refine HT.out.mono ?_
  rintro e w' ⟨rfl, rfl⟩
  go_wp2
  go_ret3
  exact ⟨rfl, rfl⟩

theorem S64_any (A : Option Addr) (l : List Int) (n c : Nat) (w : World) (h : Rd w w.heap.size A l) (hn : n = l.length) (hl : n ≤ maxLen) :
    Calls Try.prog 95 #[.slice A n c] w fun e w' => e = three .i64 .i64 .i64 (rdS 64 l) ∧ w = w' := by
  have HT := Lib.hid (takeSigned_any A l n c 64 w h hn hl (by omega) (by omega))
  clear hn h
  generalize rdS 64 l = d at *
  obtain ⟨d1, d2, d3⟩ := d
  unfold three at *
  go_enter Try.func95, Try.ntmps95
  go_wp2_with fail
  refine HT.out.mono ?_
  rintro e w' ⟨rfl, rfl⟩
  go_wp2
  go_ret3
  exact ⟨rfl, rfl⟩

theorem S33_any (A : Option Addr) (l : List Int) (n c : Nat) (w : World) (h : Rd w w.heap.size A l) (hn : n = l.length) (hl : n ≤ maxLen) :
    Calls Try.prog 113 #[.slice A n c] w fun e w' => e = three .i64 .i64 .i64 (rdS 33 l) ∧ w = w' := by
  have HT := Lib.hid (takeSigned_any A l n c 33 w h hn hl (by omega) (by omega))
  clear hn h
  generalize rdS 33 l = d at *
  obtain ⟨d1, d2, d3⟩ := d
  unfold three at *
  go_enter Try.func113, Try.ntmps113
  go_wp2_with fail
  refine HT.out.mono ?_
  rintro e w' ⟨rfl, rfl⟩
  go_wp2
  go_ret3
  exact ⟨rfl, rfl⟩

theorem S32_any (A : Option Addr) (l : List Int) (n c : Nat) (w : World) (h : Rd w w.heap.size A l) (hn : n = l.length) (hl : n ≤ maxLen) :
    Calls Try.prog 93 #[.slice A n c] w fun e w' => e = three .i32 .i64 .i64 (on1 wrap32 (rdS 32 l)) ∧ w = w' := by
  have HT := Lib.hid (takeSigned_any A l n c 32 w h hn hl (by omega) (by omega))
  clear hn h
  generalize rdS 32 l = d at *
  obtain ⟨d1, d2, d3⟩ := d
  unfold three on1 at *
  go_enter Try.func93, Try.ntmps93
  go_wp2_with fail
  refine HT.out.mono ?_
  rintro e w' ⟨rfl, rfl⟩
  go_wp2
  go_ret3
  exact ⟨rfl, rfl⟩
end Go.Proofs.Ytdbbcbffmbcjiaa
