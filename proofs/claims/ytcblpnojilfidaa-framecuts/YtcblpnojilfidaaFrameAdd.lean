/- frame's Parts: what its calls come to. -/
import Derived.Test.YtcblpnojilfidaaFrameCut
namespace Go.Proofs.Ytcblpnojilfidaa
open Go.RowKit
set_option linter.unusedVariables false

/-- A Parts in block g: its bytes lie in v. -/
def PartsAt (w : World) (g : Nat) (v : Value) (l : List Int) (bad : Bool) : Prop := Own w g 43 [v, .bool bad] ∧ OwnB w 0 v l ∧ IsBytes l

theorem PartsAt.chg {S : Nat → Prop} {w w' : World} {g : Nat} {v : Value} {l : List Int} {bad : Bool} (h : PartsAt w g v l bad) (hc : Chg S w w') (hg : ¬ S g) (hv : ∀ k, v.ownBlock = some k → ¬ S k) : PartsAt w' g v l bad :=
  ⟨h.1.chg hc hg, h.2.1.chg hc hv, h.2.2⟩
theorem PartsAt.later {w w' : World} {g : Nat} {v : Value} {l : List Int} {bad : Bool} (h : PartsAt w g v l bad) (hc : Below w.heap.size w w') : PartsAt w' g v l bad := h.chg (S := fun _ => False) (Chg.of_below hc) id fun _ _ => id

def NewPost (w : World) (e : Ending) (w' : World) : Prop := e = .returned (.pointer (some ⟨w.heap.size, 0, none⟩)) ∧ PartsAt w' w.heap.size (.slice none 0 0) [] false ∧ Below w.heap.size w w' ∧ w.heap.size < w'.heap.size
theorem new_any (w : World) : Calls Try.prog 8 #[] w (NewPost w) := by
  go_enter Try.func8, Try.ntmps8
  go_wp2
  go_ret
  exact ⟨rfl, ⟨Own.new w _ [.slice none 0 0, .bool false], OwnB.nil _ _, IsBytes.nil⟩, (Below.refl _ _).alloc (Nat.le_refl _) _, by simp⟩

theorem parts_cells {w : World} {g : Nat} {v : Value} {b : Bool} (h : Own w g 43 [v, .bool b]) : w.cell? ⟨g, 0, none⟩ = some v ∧ w.cell? ⟨g, 1, none⟩ = some (.bool b) ∧ w.frozen? ⟨g, 0, none⟩ = false ∧ w.frozen? ⟨g, 1, none⟩ = false :=
  ⟨h.cell 0, h.cell 1, h.frozen 0, h.frozen 1⟩

def AddPost (l : List Int) (g : Nat) (v : Value) (w : World) (e : Ending) (w' : World) : Prop :=
  ∃ f v', e = .returned (.tuple #[f, .int .i64 (if (fr l).2.2 then 4 else 0)]) ∧ OwnL (fun k => w.heap.size ≤ k ∧ v'.ownBlock ≠ some k) w' f (fr l).1 ∧ PartsAt w' g v' (fr l).2.1 (fr l).2.2 ∧ Chg (fun k => k = g ∨ v.ownBlock = some k) w w' ∧ ∀ k, v'.ownBlock = some k → v.ownBlock = some k ∨ w.heap.size ≤ k

set_option maxHeartbeats 1000000 in
theorem add_any {X : Nat → Prop} (g : Nat) (v : Value) (l news : List Int) (A : Option Addr) (m c : Nat) (w : World) (hp : PartsAt w g v l false) (hr : RdX X w A news) (hm : m = news.length) (hlen : l.length + m ≤ 1000000) :
    Calls Try.prog 9 #[.pointer (some ⟨g, 0, none⟩), .slice A m c] w (AddPost (l ++ news) g v w) := by
  obtain ⟨hO, hB, hI⟩ := hp
  have hne : v.ownBlock ≠ some g := owns_ne hB hO (by decide)
  obtain ⟨hc0, hc1, hf0, hf1⟩ := parts_cells hO
  have HR := Lib.hid hr
  have HM := Lib.hid hm
  have HP := Lib.hid (And.intro hO (And.intro hB (And.intro hI hne)))
  obtain ⟨A0, n0, rfl, hn0, hm0, hx0⟩ := hB.rdX hI
  clear hr hm hO hB hI hne hx0
  unfold maxLen at hm0
  go_enter Try.func9, Try.ntmps9
  have hIB : IsBytes (l ++ news) := IsBytes.app HP.out.2.2.1 HR.out.1
  have hLN : (l ++ news).length ≤ 1000000 := by simp; rw [← HM.out]; exact hlen
  generalize hL : l ++ news = L at *
  have HL := Lib.hid hL
  have HIB := Lib.hid hIB
  clear hIB hL
  generalize hN : L.length = N at *
  have HN := Lib.hid hN
  clear hN
  go_wp2_with (at_builtin; go_loud (refine wpList_appB rfl (.tmp 19) (.tmp 20) rfl 0 (.slice A0 l.length n0) l rfl HP.out.2.1 A m c news rfl HM.out HR.out (by omega) (by omega) ?_; intro v1 w1 hv1 hw1 hx1; rw [HL.out] at hv1; obtain ⟨hd0, hd1, he0, he1⟩ := parts_cells (HP.out.1.chg (Chg.of_grown hw1) fun e => HP.out.2.2.2 e.symm); obtain ⟨A1, c1, rfl, hn1, hm1, hr1⟩ := hv1.rdX HIB.out; rw [HN.out] at hv1 hx1 hr1 hn1; have HV := Lib.hid (And.intro hv1 (And.intro hw1 (And.intro hx1 hr1))); clear hv1 hw1 hx1 hr1 hc0 hc1 hf0 hf1))
  rw [HN.out]
  have hO1 : Own w1 g 43 [.slice A0 l.length n0, .bool false] := HP.out.1.chg (Chg.of_grown HV.out.2.1) fun e => HP.out.2.2.2 e.symm
  have hO2 : Own (w1.setCell ⟨g, 0, none⟩ (.slice A1 N c1)) g 43 [.slice A1 N c1, .bool false] := hO1.set 0 _
  have hne : (Value.slice A1 N c1).ownBlock ≠ some g := owns_ne HV.out.1 hO1 (by decide)
  have hB2 : OwnB (w1.setCell ⟨g, 0, none⟩ (.slice A1 N c1)) 0 (.slice A1 N c1) L := HV.out.1.chg (Chg.setCell _ _ _) fun k hk e => hne (by rw [hk, e])
  have hC2 : Chg (fun k => k = g ∨ (Value.slice A0 l.length n0).ownBlock = some k) w (w1.setCell ⟨g, 0, none⟩ (.slice A1 N c1)) :=
    ((Chg.of_grown HV.out.2.1).mono fun k _ e => .inr e.symm).trans (Chg.setCell _ _ _) fun k _ e => .inl e
  have hrd : Rd (w1.setCell ⟨g, 0, none⟩ (.slice A1 N c1)) (w1.setCell ⟨g, 0, none⟩ (.slice A1 N c1)).heap.size A1 L := by
    refine (HV.out.2.2.2.chg (Chg.setCell w1 ⟨g, 0, none⟩ (.slice A1 N c1)) fun k _ hk e => hne (by rw [hk, e])).rd
  generalize w1.setCell ⟨g, 0, none⟩ (.slice A1 N c1) = w2 at *
  have HX := Lib.hid HV.out.2.2.1
  have HH := Lib.hid (And.intro hO2 (And.intro hB2 (And.intro hC2 hne)))
  clear hO1 hO2 hB2 hC2 hne HV hd0 hd1 he0 he1
  refine (cut_any A1 L N c1 w2 hrd HN.out.symm (by omega) hn1 hm1).mono ?_
  rintro e w3 ⟨f, k, rfl, hf, hk, hb⟩
  have hO3 : Own w3 g 43 [.slice A1 N c1, .bool false] := HH.out.1.later hb
  have hB3 : OwnB w3 0 (.slice A1 N c1) L := HH.out.2.1.later hb
  have hC3 : Chg (fun k => k = g ∨ (Value.slice A0 l.length n0).ownBlock = some k) w w3 := HH.out.2.2.1.trans (Chg.of_below (S := fun _ => False) hb) fun _ _ e => e.elim
  obtain ⟨hd0, hd1, he0, he1⟩ := parts_cells hO3
  have hglt : g < w2.heap.size := HH.out.1.lt
  have hs2 : w.heap.size ≤ w2.heap.size := HH.out.2.2.1.size
  have hs3 := hb.size
  generalize hR : fr L = R at *
  obtain ⟨fs, rest, bad⟩ := R
  have HK := Lib.hid hk
  have HF := Lib.hid (And.intro hO3 (And.intro hB3 (And.intro hC3 (And.intro hf hR))))
  clear hk hO3 hB3 hC3 hf hR hb hrd
  cases bad
  · obtain ⟨j, rfl, hj, hrest⟩ := HK.out rfl
    simp only at hrest
    subst hrest
    simp only [Bool.false_eq_true, if_false]
    by_cases hj0 : j = 0
    · subst hj0
      go_wp2
      go_ret2
      refine ⟨f, .slice A1 N c1, by rw [HF.out.2.2.2.2]; rfl, ?_, ?_, HF.out.2.2.1, fun x hx => ?_⟩
      · rw [HF.out.2.2.2.2]
        refine HF.out.2.2.2.1.mono fun x hx hx2 => ⟨by omega, fun e => ?_⟩
        have := owns_lt HH.out.2.1 e
        omega
      · rw [HF.out.2.2.2.2]; exact ⟨HF.out.1, by simpa using HF.out.2.1, by simpa using HIB.out⟩
      · rcases HX.out with e | e
        · exact .inl (by rw [← e]; exact hx)
        · rw [e] at hx; injection hx with hx; subst hx; exact .inr (Nat.le_refl _)
    · have hj1 : (0 : Int) < (j : Int) := by omega
      have hjL : j ≤ L.length := by rw [HN.out]; exact hj
      have hx3 := HF.out.2.1.rdX HIB.out
      obtain ⟨A3, c3, e3, _, _, hr3⟩ := hx3
      injection e3 with e3a e3b e3c
      subst e3a
      subst e3c
      clear e3b
      obtain ⟨b, o, rfl, _, hb3, _⟩ := hr3.2.spot (by simp; omega)
      have HRs : Hid (Rd w3 w3.heap.size (some ⟨b, o + j, none⟩) (L.drop j) ∧ (c1 = j → Rd w3 w3.heap.size (some ⟨b, o, none⟩) (L.drop j))) := by
        have h1 := hr3.2.tail j
        rw [← List.map_drop] at h1
        refine ⟨RdX.rd ⟨IsBytes.drop HIB.out _, h1⟩, fun e => ?_⟩
        rw [List.drop_of_length_le (by rw [HN.out]; omega)]
        exact Rd.nil _ _ _
      have HRL : Hid (N - j = (L.drop j).length) := by unfold Hid; rw [List.length_drop, HN.out]
      unfold maxLen at hm1
      clear hr3 hjL
      have fin : ∀ v w4, OwnB w4 w3.heap.size v (L.drop j) → Below w3.heap.size w3 w4 → AddPost L g (.slice A0 l.length n0) w (.returned (.tuple #[f, .int .i64 0])) (w4.setCell ⟨g, 0, none⟩ v) := fun v w4 hv hb => by
        have hO4 := HF.out.1.later hb
        have hvg : ∀ k, v.ownBlock = some k → ¬ k = g := fun k hk e => by have := owns_ge hv hk; omega
        refine ⟨f, v, by rw [HF.out.2.2.2.2]; rfl, ?_, ?_, ?_, ?_⟩
        · rw [HF.out.2.2.2.2]
          have h1 := HF.out.2.2.2.1.mono (Y := fun x => w2.heap.size ≤ x ∧ x < w3.heap.size) fun x hx hx2 => ⟨hx2, hx⟩
          refine ((h1.later hb).chg (Chg.setCell _ _ _) fun x _ hx e => ?_).mono fun x _ hx => ⟨by omega, fun e => ?_⟩
          · simp at e; omega
          · have := owns_ge hv e; omega
        · rw [HF.out.2.2.2.2]
          refine ⟨hO4.set 0 _, OwnB.chg (hv.base (Nat.zero_le _)) (Chg.setCell _ _ _) hvg, IsBytes.drop HIB.out _⟩
        · exact (HF.out.2.2.1.trans (Chg.of_below (S := fun _ => False) hb) fun _ _ e => e.elim).trans (Chg.setCell _ _ _) fun x _ e => .inl e
        · exact fun x hx => .inr (by have := owns_ge hv hx; omega)
      have FIN := Lib.hid fin
      clear fin
      by_cases hcap : c1 = j
      · have hcap' := hcap.symm
        subst hcap'
        have hA := HRs.out.2 rfl
        have HA := Lib.hid hA
        clear hA
        go_wp2_with fail
        refine (clone_any _ (L.drop j) _ _ w3 HA.out (by rw [List.length_drop, HN.out]; try omega) (by omega) (by simp)).mono ?_
        rintro e w4 ⟨v, rfl, ho, hbl⟩
        have hd4 := parts_cells (HF.out.1.later hbl)
        obtain ⟨hx0, hx1, hy0, hy1⟩ := hd4
        have HFF := Lib.hid (FIN.out v w4 ho hbl)
        obtain ⟨A4, c4, rfl, _, _, _⟩ := ho.rdX (IsBytes.drop HIB.out _)
        clear ho hbl hd0 hd1 he0 he1
        generalize (L.drop j).length = q at *
        go_wp2
        go_ret2
        exact HFF.out
      · have hA := HRs.out.1
        have HA := Lib.hid hA
        clear hA
        go_wp2_with fail
        refine (clone_any _ (L.drop j) _ _ w3 HA.out (by rw [List.length_drop, HN.out]; try omega) (by omega) (by simp)).mono ?_
        rintro e w4 ⟨v, rfl, ho, hbl⟩
        have hd4 := parts_cells (HF.out.1.later hbl)
        obtain ⟨hx0, hx1, hy0, hy1⟩ := hd4
        have HFF := Lib.hid (FIN.out v w4 ho hbl)
        obtain ⟨A4, c4, rfl, _, _, _⟩ := ho.rdX (IsBytes.drop HIB.out _)
        clear ho hbl hd0 hd1 he0 he1
        generalize (L.drop j).length = q at *
        go_wp2
        go_ret2
        exact HFF.out
  · have hrest : rest = [] := by have := fr_bad L; rw [HF.out.2.2.2.2] at this; exact this rfl
    simp only [if_true]
    go_wp2
    go_ret2
    refine ⟨f, .slice none 0 0, by rw [HF.out.2.2.2.2]; rfl, ?_, ?_, ?_, ?_⟩
    · rw [HF.out.2.2.2.2]
      refine ((HF.out.2.2.2.1.chg (Chg.setCell _ _ _) fun x _ hx e => ?_).chg (Chg.setCell _ _ _) fun x _ hx e => ?_).mono fun x _ hx => ⟨by omega, by simp [Value.ownBlock]⟩
      · simp at e; omega
      · simp at e; omega
    · rw [HF.out.2.2.2.2, hrest]
      exact ⟨(HF.out.1.set 0 _).set 1 _, OwnB.nil _ _, IsBytes.nil⟩
    · exact (HF.out.2.2.1.trans (Chg.setCell _ _ _) fun x _ e => .inl e).trans (Chg.setCell _ _ _) fun x _ e => .inl e
    · exact fun x hx => by simp [Value.ownBlock] at hx

/-- Of a bad one. -/
theorem add_bad (g : Nat) (v : Value) (l : List Int) (A : Option Addr) (m c : Nat) (w : World) (hp : PartsAt w g v l true) :
    Calls Try.prog 9 #[.pointer (some ⟨g, 0, none⟩), .slice A m c] w fun e w' => e = .returned (.tuple #[.slice none 0 0, .int .i64 4]) ∧ w = w' := by
  obtain ⟨hc0, hc1, hf0, hf1⟩ := parts_cells hp.1
  clear hp
  go_enter Try.func9, Try.ntmps9
  go_wp2
  go_ret2
  exact ⟨rfl, rfl⟩
/-- Of none. -/
theorem add_none (A : Option Addr) (m c : Nat) (w : World) :
    Calls Try.prog 9 #[.pointer none, .slice A m c] w fun e w' => e = .returned (.tuple #[.slice none 0 0, .int .i64 1]) ∧ w = w' := by
  go_enter Try.func9, Try.ntmps9
  go_wp2
  go_ret2
  exact ⟨rfl, rfl⟩
theorem rest_any (g : Nat) (v : Value) (l : List Int) (bad : Bool) (w : World) (hp : PartsAt w g v l bad) :
    Calls Try.prog 12 #[.pointer (some ⟨g, 0, none⟩)] w fun e w' => e = .returned (.int .i64 l.length) ∧ w = w' := by
  obtain ⟨hc0, hc1, hf0, hf1⟩ := parts_cells hp.1
  obtain ⟨A0, n0, rfl, hn0, hm0, hx0⟩ := hp.2.1.rdX hp.2.2
  clear hp hx0
  generalize l.length = q at *
  go_enter Try.func12, Try.ntmps12
  go_wp2
  go_ret
  exact ⟨rfl, rfl⟩
theorem rest_none (w : World) :
    Calls Try.prog 12 #[.pointer none] w fun e w' => e = .returned (.int .i64 0) ∧ w = w' := by
  go_enter Try.func12, Try.ntmps12
  go_wp2
  go_ret
  exact ⟨rfl, rfl⟩
theorem bad_any (g : Nat) (v : Value) (l : List Int) (bad : Bool) (w : World) (hp : PartsAt w g v l bad) :
    Calls Try.prog 13 #[.pointer (some ⟨g, 0, none⟩)] w fun e w' => e = .returned (.bool bad) ∧ w = w' := by
  obtain ⟨hc0, hc1, hf0, hf1⟩ := parts_cells hp.1
  clear hp
  go_enter Try.func13, Try.ntmps13
  go_wp2
  go_ret
  exact ⟨rfl, rfl⟩
theorem bad_none (w : World) :
    Calls Try.prog 13 #[.pointer none] w fun e w' => e = .returned (.bool false) ∧ w = w' := by
  go_enter Try.func13, Try.ntmps13
  go_wp2
  go_ret
  exact ⟨rfl, rfl⟩
theorem copy_none (w : World) :
    Calls Try.prog 14 #[.pointer none] w fun e w' => e = .returned (.pointer none) ∧ w = w' := by
  go_enter Try.func14, Try.ntmps14
  go_wp2
  go_ret
  exact ⟨rfl, rfl⟩
end Go.Proofs.Ytcblpnojilfidaa
