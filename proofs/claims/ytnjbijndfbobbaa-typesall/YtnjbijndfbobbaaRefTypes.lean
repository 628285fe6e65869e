/- The document's Reader of types: what its calls come to. -/
import Derived.Test.YtnjbijndfbobbaaRefTake
import Derived.Test.YtnjbijndfbobbaaTypesSrc
import Derived.Test.YtnjbijndfbobbaaTypesTake3
namespace Go.Proofs.Ytnjbijndfbobbaa
open Go.RowKit
set_option maxRecDepth 100000
set_option linter.unusedVariables false

theorem ffail0_any (g : Nat) (l : List Int) (w : World) (h : RfAt w g (.ok l)) :
    Calls Try.prog 53 #[.pointer (some ⟨g, 0, none⟩), .int .i64 0] w (FPost g (.ok l) w) := by
  obtain ⟨A, c, h1, h2, h3⟩ := h
  obtain ⟨hc0, hc1, hf0, hf1⟩ := own_cells2 h1
  have HH := Lib.hid (And.intro h1 (And.intro h2 h3))
  clear h1 h2 h3
  generalize hq : l.length = q at *
  have HQ := Lib.hid hq
  clear hq
  go_enter Try.func53, Try.ntmps53
  go_wp2
  go_end0
  have hc := chgSet w g 1 (.int .i64 0)
  obtain rfl := HQ.out
  exact ⟨⟨_, rfl⟩, ⟨A, c, HH.out.1.set 1 _, HH.out.2.1.chg hc fun k _ hk e => by omega, HH.out.2.2⟩, hc⟩

theorem val_dead {s : St} {e : Int} (h : nx pByte s = .error e) : nx pVal s = .error e ∧ ∀ a l', bd s pVal ≠ .ok (a, l') := by
  cases s with
  | error e' => exact ⟨h, fun a l' h => by cases h⟩
  | ok l =>
    simp only [nx_ok, bd_ok, pVal, seq] at h ⊢
    cases hp : pByte l with
    | error e' => rw [hp] at h; exact ⟨h, fun a l' h => by cases h⟩
    | ok r => rw [hp] at h; cases h
set_option maxHeartbeats 1000000 in
theorem fvalue_any (g : Nat) (s : St) (w : World) (h : RfAt w g s) :
    Calls Try.prog 98 #[.pointer (some ⟨g, 0, none⟩)] w (NPost .u8 255 pVal g s w) := by
  have HH := Lib.hid h
  clear h
  go_enter Try.func98, Try.ntmps98
  go_wp2_with fail
  refine (fbyte_any g s w HH.out).mono ?_
  rintro e w1 ⟨x, rfl, h0, h1, h2, h3, h4⟩
  have H2 := Lib.hid (And.intro h2 (And.intro h3 h4))
  obtain ⟨ee, hee, hes⟩ := h2.cellE
  clear h2 h3 h4
  rcases hes with ⟨rfl, l, hl⟩ | ⟨hne, hs⟩
  · have HL := Lib.hid hl
    clear hl
    go_wp2_with fail
    refine (value_any 30 (by simp) x w1 h0 h1).mono ?_
    rintro e w' ⟨rfl, rfl⟩
    unfold valT
    by_cases hx : valE x = 0
    · have HK := Lib.hid (val_in hx H2.out.2.1)
      rw [hx]
      have HF : Hid (Calls Try.prog 53 #[.pointer (some ⟨g, 0, none⟩), .int .i64 0] w1 (FPost g (.ok l) w1)) := ffail0_any g l w1 (by rw [← HL.out]; exact H2.out.1)
      clear hx
      go_wp2_with fail
      refine HF.out.mono ?_
      rintro e w2 ⟨⟨u, rfl⟩, h2, hc⟩
      have HC := Lib.hid (And.intro h2 hc)
      clear h2 hc
      go_wp2
      go_ret
      exact ⟨x, rfl, h0, h1, by rw [HK.out.1, HL.out]; exact HC.out.1, HK.out.2, H2.out.2.2.trans HC.out.2 fun k _ e => e⟩
    · have HK := Lib.hid (val_out hx H2.out.2.1)
      have hp : 0 < valE x ∧ valE x ≤ 100 := by rcases valE_cases x with h | h | h <;> omega
      have HF := Lib.hid (ffail_any g _ (valE x) w1 H2.out.1 hp.1 hp.2)
      have hd : decide (valE x = 0) = false := by simpa using hx
      rw [hd]
      clear hx hd
      generalize valE x = ve at *
      go_wp2_with fail
      refine HF.out.mono ?_
      rintro e w2 ⟨⟨u, rfl⟩, h2, hc⟩
      have HC := Lib.hid (And.intro h2 hc)
      clear h2 hc
      go_wp2
      go_ret
      exact ⟨x, rfl, h0, h1, by rw [HK.out.1]; exact HC.out.1, (fun a l' h => (HK.out.2 a l' h).elim), H2.out.2.2.trans HC.out.2 fun k _ e => e⟩
  · have HK := Lib.hid (And.intro (val_dead hs) hs)
    have hne2 : (ee == 0) = false := by simpa using hne
    clear hs hne
    go_wp2
    go_ret
    refine ⟨x, rfl, h0, h1, ?_, (fun a l' h => (HK.out.1.2 a l' h).elim), H2.out.2.2⟩
    rw [HK.out.1.1, ← HK.out.2]
    exact H2.out.1

theorem bd_dead {α β : Type} {s : St} {e : Int} {p : PR α} (f : α → PR β) (h : bd s p = .error e) : bd s (seq p f) = .error e ∧ nx (seq p f) s = .error e := by
  have h1 : bd s (seq p f) = .error e := by
    cases s with
    | error e' => simp only [bd_error] at h ⊢; injection h with h; rw [h]
    | ok l => simp only [bd_ok, seq] at h ⊢; rw [h]; rfl
  exact ⟨h1, by unfold nx; rw [h1]; rfl⟩
/-- Bytes that the document's Reader read, into new memory. -/
def FBPost (p : PR (List Int)) (g : Nat) (s : St) (w : World) (e : Ending) (w' : World) : Prop :=
  ∃ v y, e = .returned v ∧ OwnB w' w.heap.size v y ∧ IsBytes y ∧ RfAt w' g (nx p s) ∧ (∀ a l', bd s p = .ok (a, l') → y = a) ∧ Chg (fun k => k = g) w w'
set_option maxHeartbeats 2000000 in
theorem fvalues_any (g : Nat) (s : St) (w : World) (h : RfAt w g s) :
    Calls Try.prog 89 #[.pointer (some ⟨g, 0, none⟩)] w (FBPost pVals g s w) := by
  have HH := Lib.hid h
  have hgw := h.lt
  clear h
  go_enter Try.func89, Try.ntmps89
  go_wp2_with fail
  refine (fU32_any g s w HH.out).mono ?_
  rintro e w1 ⟨x, rfl, h0, h1, h2, h3, h4⟩
  obtain ⟨n, rfl⟩ : ∃ n : Nat, x = n := ⟨x.toNat, by omega⟩
  have hs1 := h4.size
  have H2 := Lib.hid (And.intro h2 (And.intro h3 h4))
  clear h2 h3 h4
  by_cases hx : (8 : Int) < n
  · have HK := Lib.hid (count_fail hx H2.out.2.1)
    go_wp2_with fail
    refine (ffail_any g _ 4 w1 H2.out.1 (by omega) (by omega)).mono ?_
    rintro e w2 ⟨⟨u, rfl⟩, h2, hc⟩
    rw [← HK.out.1] at h2
    obtain ⟨ex, he1, he2⟩ := HK.out.2
    rw [he1] at h2
    have hE := h2.own1
    have hne : (ex == 0) = false := by have := h2.err ex rfl; simp; omega
    have HC := Lib.hid (And.intro h2 (And.intro hc (bd_dead (fun n => pV n.toNat []) he2)))
    clear h2 hc he1 he2 HK
    go_wp2
    go_loop [3, 5] (fun v i => v = .slice none 0 0 ∧ i = .int .u32 0) (fun _ _ => 0)
    case atStart => exact ⟨rfl, rfl⟩
    case round =>
      obtain ⟨rfl, rfl⟩ := hrel
      go_wp2
      go_ret
      refine ⟨_, [], rfl, OwnB.nil _ _, IsBytes.nil, ?_, (fun a l' h => ?_), H2.out.2.2.trans HC.out.2.1 fun k _ e => e⟩
      · unfold pVals; rw [HC.out.2.2.2]; exact HC.out.1
      · unfold pVals at h; rw [HC.out.2.2.1] at h; cases h
  · have HK := Lib.hid (count_ok hx H2.out.2.1)
    have hn8 : n ≤ 8 := by omega
    go_wp2
    go_loopw [3, 5] (fun v i wr => ∃ (y : List Int) (k : Nat) (sk : St), k ≤ n ∧ i = .int .u32 k ∧ w.heap.size ≤ wr.heap.size ∧ Hid (RfAt wr g sk ∧ OwnB wr w.heap.size v y ∧ IsBytes y ∧ y.length = k ∧ bd (nx (pCount 8) s) (pV n []) = bd sk (pV (n - k) y) ∧ Chg (fun k => k = g) w wr)) (fun _ i _ => n - (intOf i).toNat)
    case atStart => exact ⟨[], 0, _, by omega, rfl, hs1, H2.out.1, OwnB.nil _ _, IsBytes.nil, rfl, by rw [HK.out.1]; simp, H2.out.2.2⟩
    case round =>
      obtain ⟨y, k, sk, hk, rfl, hsz, HX⟩ := hrel
      obtain ⟨ee, hee, hes⟩ := HX.out.1.cellE
      by_cases hlt : k < n
      · have hlt2 : (k : Int) < n := by omega
        rcases hes with ⟨rfl, l, hl⟩ | ⟨hne, hs⟩
        · clear hl
          go_wp2_with fail
          refine (fvalue_any g sk wr HX.out.1).mono ?_
          rintro e w2 ⟨z, rfl, z0, z1, h2, h3, h4⟩
          have hs2 := h4.size
          have H3 : Hid (RfAt w2 g (nx pVal sk) ∧ OwnB w2 w.heap.size u3 y ∧ IsBytes (y ++ [z]) ∧ bd (nx (pCount 8) s) (pV n []) = bd (nx pVal sk) (pV (n - (k + 1)) (y ++ [z])) ∧ Chg (fun k => k = g) w w2 ∧ y.length = k) := by
            obtain ⟨q1, q2, q3, q4, q5, q6⟩ := HX.out
            refine ⟨h2, q2.chg h4 fun i hi e => ?_, q3.app (IsBytes.one z0 (by omega)), ?_, q6.trans h4 (fun k _ e => e), q4⟩
            · have := owns_ge q2 hi; omega
            · rw [q5, show n - k = n - (k + 1) + 1 from by omega]
              exact (nx_seq pVal (fun x => pV (n - (k + 1)) (y ++ [x])) sk z h3).2
          clear h2 h3 h4
          go_wp2_with (at_builtin; refine wpList_app1 rfl (.tmp 24) (.tmp 27) rfl w.heap.size u3 y rfl H3.out.2.1 z rfl z0 z1 (by have := H3.out.2.2.2.2.2; omega) (by omega) ?_; intro v1 w3 hv1 hw1; have HV := Lib.hid (And.intro hv1 hw1); clear hv1 hw1)
          go_wp2
          have hs3 := HV.out.2.size
          refine ⟨⟨y ++ [z], k + 1, _, by omega, by go_num, by omega, H3.out.1.below HV.out.2 hgw (by omega), HV.out.1, H3.out.2.2.1, by have := H3.out.2.2.2.2.2; simp; omega, H3.out.2.2.2.1, ?_⟩, ?_⟩
          · exact H3.out.2.2.2.2.1.trans ⟨HV.out.2.os, HV.out.2.tape, HV.out.2.output, HV.out.2.size, fun i hi hn => HV.out.2.block i (by exact Nat.lt_of_not_le hn)⟩ fun i hi e => by omega
          · simp [intOf]; omega
        · have hne2 : (ee == 0) = false := by simpa using hne
          have HS := Lib.hid hs
          clear hs hne
          go_wp2
          go_ret
          obtain ⟨q1, q2, q3, q4, q5, q6⟩ := HX.out
          rw [HS.out] at q5 q1
          obtain ⟨k1, k2⟩ := nx_seq (pCount 8) (fun n => pV n.toNat []) s (n : Int) HK.out.2
          rw [Int.toNat_natCast] at k1 k2
          refine ⟨_, y, rfl, q2, q3, ?_, (fun a l' h => ?_), q6⟩
          · unfold pVals; rw [k1, nx, q5]; exact q1
          · unfold pVals at h; rw [k2, q5] at h; cases h
      · obtain rfl : k = n := by omega
        clear hee hes
        go_wp2
        go_ret
        obtain ⟨q1, q2, q3, q4, q5, q6⟩ := HX.out
        have e0 : pV (k - k) y = fun l => .ok (y, l) := by rw [Nat.sub_self]; rfl
        rw [e0] at q5
        obtain ⟨k1, k2⟩ := nx_seq (pCount 8) (fun n => pV n.toNat []) s (k : Int) HK.out.2
        rw [Int.toNat_natCast] at k1 k2
        refine ⟨_, y, rfl, q2, q3, ?_, (fun a l' h => ?_), q6⟩
        · unfold pVals; rw [k1, nx, q5]; cases sk <;> exact q1
        · unfold pVals at h
          rw [k2, q5] at h
          cases sk with
          | error e => cases h
          | ok l => injection h with h; injection h
end Go.Proofs.Ytnjbijndfbobbaa
