/- The document's Reader at the front of its reader of modules: what its calls come to. (Written by gen_RefReader5.py.) -/
import Derived.Test.YtgbjlcedabkdkaaDoorTypesSrc
import Derived.Test.YtgbjlcedabkdkaaDoorLebRef
namespace Go.Proofs.YtgbjlcedabkdkaaDoor
open Go.RowKit
set_option maxRecDepth 100000
set_option linter.unusedVariables false

/-- The document's Reader in block g. -/
def RfAt5 (w : World) (g : Nat) (s : St) : Prop := match s with
  | .ok l => ∃ A c, Own w g 56 [.slice A l.length c, .int .i64 0] ∧ RdX (· < g) w A l ∧ l.length ≤ c ∧ c ≤ maxLen ∧ l.length ≤ 1000000
  | .error e => ∃ A n c, Own w g 56 [.slice A n c, .int .i64 e] ∧ 0 < e ∧ e ≤ 100 ∧ n ≤ 1000000
theorem RfAt5.chg {S : Nat → Prop} {w w' : World} {g : Nat} {s : St} (h : RfAt5 w g s) (hc : Chg S w w') (hs : ∀ k, k ≤ g → ¬ S k) : RfAt5 w' g s := by
  cases s with
  | ok l => obtain ⟨A, c, h1, h2, h3, h4, h5⟩ := h; exact ⟨A, c, h1.chg hc (hs g (Nat.le_refl _)), h2.chg hc fun k _ hk => hs k (by omega), h3, h4, h5⟩
  | error e => obtain ⟨A, n, c, h1, h2⟩ := h; exact ⟨A, n, c, h1.chg hc (hs g (Nat.le_refl _)), h2⟩
theorem RfAt5.later {w w' : World} {g : Nat} {s : St} (h : RfAt5 w g s) (hc : Below w.heap.size w w') : RfAt5 w' g s := h.chg (S := fun _ => False) (Chg.of_below hc) fun _ _ => id
theorem RfAt5.below {B : Nat} {w w' : World} {g : Nat} {s : St} (h : RfAt5 w g s) (hb : Below B w w') (hg : g < B) (hB : B ≤ w.heap.size) : RfAt5 w' g s :=
  h.chg (S := fun k => B ≤ k) ⟨hb.os, hb.tape, hb.output, hb.size, fun k _ hk => hb.block k (by omega)⟩ fun k hk => by omega
theorem RfAt5.lt {w : World} {g : Nat} {s : St} (h : RfAt5 w g s) : g < w.heap.size := by
  cases s with
  | ok l => obtain ⟨A, c, h1, _⟩ := h; exact h1.lt
  | error e => obtain ⟨A, n, c, h1, _⟩ := h; exact h1.lt
theorem RfAt5.err {w : World} {g : Nat} {s : St} (h : RfAt5 w g s) : ∀ e, s = .error e → 0 < e := fun e he => by subst he; obtain ⟨_, _, _, _, h, _⟩ := h; exact h
theorem RfAt5.fail {w : World} {g : Nat} {l : List Int} (h : RfAt5 w g (.ok l)) (x : Int) (hx : 0 < x) (hx2 : x ≤ 100) : RfAt5 (w.setCell ⟨g, 1, none⟩ (.int .i64 x)) g (.error x) := by
  obtain ⟨A, c, h1, _, _, _, h5⟩ := h
  exact ⟨A, _, c, h1.set 1 _, hx, hx2, h5⟩
theorem rfAt_tail5 {w : World} {g : Nat} {l : List Int} {A A' : Option Addr} {c c' m : Nat} (ho : Own w g 56 [.slice A l.length c, .int .i64 0]) (hx : RdX (· < g) w A' (l.drop m)) (hm : m ≤ l.length) (hc : c' = c - m) (hlc : l.length ≤ c) (hcm : c ≤ maxLen) (hlm : l.length ≤ 1000000) :
    RfAt5 (w.setCell ⟨g, 0, none⟩ (.slice A' (l.length - m) c')) g (.ok (l.drop m)) := by
  refine ⟨A', c', ?_, hx.chg (Chg.setCell _ _ _) fun k _ hk e => by simp at e; omega, ?_, by omega, ?_⟩
  · rw [List.length_drop]; exact ho.set 0 _
  · rw [List.length_drop]; omega
  · rw [List.length_drop]; omega

def FPost5 (g : Nat) (s : St) (w : World) (e : Ending) (w' : World) : Prop := (∃ u, e = .returned u) ∧ RfAt5 w' g s ∧ Chg (fun k => k = g) w w'
/-- A number that the document's Reader read. -/
def NPost5 (K : IntKind) (hi : Int) (p : PR Int) (g : Nat) (s : St) (w : World) (e : Ending) (w' : World) : Prop :=
  ∃ x, e = .returned (.int K x) ∧ 0 ≤ x ∧ x ≤ hi ∧ RfAt5 w' g (nx p s) ∧ (∀ a l', bd s p = .ok (a, l') → x = a) ∧ Chg (fun k => k = g) w w'

theorem ffail5_any (g : Nat) (s : St) (x : Int) (w : World) (h : RfAt5 w g s) (hx : 0 < x) (hx2 : x ≤ 100) :
    Calls Tryd.prog 23 #[.pointer (some ⟨g, 0, none⟩), .int .i64 x] w (FPost5 g (failS x s) w) := by
  cases s with
  | ok l =>
    have HF := Lib.hid (h.fail x hx hx2)
    obtain ⟨A, c, h1, -, -, -, -⟩ := h
    obtain ⟨hc0, hc1, hf0, hf1⟩ := own_cells2 h1
    clear h1
    generalize l.length = q at *
    go_enter Tryd.func23, Tryd.ntmps23
    go_wp2
    go_end0
    exact ⟨⟨_, rfl⟩, HF.out, chgSet _ _ _ _⟩
  | error e =>
    have HF := Lib.hid h
    obtain ⟨A, n, c, h1, he, he2, hn⟩ := h
    obtain ⟨hc0, hc1, hf0, hf1⟩ := own_cells2 h1
    clear h1
    have hne : (e == 0) = false := by simp; omega
    go_enter Tryd.func23, Tryd.ntmps23
    go_wp2
    go_end0
    exact ⟨⟨_, rfl⟩, HF.out, Chg.refl _ _⟩

def overS5 (s : St) : St := match s with
  | .error e => .error e
  | .ok [] => .ok []
  | .ok (_ :: _) => .error 2
set_option maxHeartbeats 1000000 in
theorem fbyte5_any (g : Nat) (s : St) (w : World) (h : RfAt5 w g s) :
    Calls Tryd.prog 19 #[.pointer (some ⟨g, 0, none⟩)] w (NPost5 .u8 255 pByte g s w) := by
  rcases s with e | (_ | ⟨x, l⟩)
  · have HH := Lib.hid h
    obtain ⟨A, n, c, h1, he, he2, hn⟩ := h
    obtain ⟨hc0, hc1, hf0, hf1⟩ := own_cells2 h1
    clear h1
    have hne : (e == 0) = false := by simp; omega
    have hne2 : (e != 0) = true := by simp; omega
    go_enter Tryd.func19, Tryd.ntmps19
    go_wp2
    go_ret
    exact ⟨0, rfl, by omega, by omega, HH.out, (fun a l' h => by cases h), Chg.refl _ _⟩
  · have HF := Lib.hid (h.fail 3 (by omega) (by omega))
    obtain ⟨A, c, h1, -, -, -, -⟩ := h
    obtain ⟨hc0, hc1, hf0, hf1⟩ := own_cells2 h1
    clear h1
    simp only [List.length_nil] at *
    go_enter Tryd.func19, Tryd.ntmps19
    go_wp2
    go_ret
    exact ⟨0, rfl, by omega, by omega, HF.out, (fun a l' h => by cases h), chgSet _ _ _ _⟩
  · obtain ⟨A, c, h1, hr, hlc, hcm, hlm⟩ := h
    obtain ⟨hc0, hc1, hf0, hf1⟩ := own_cells2 h1
    obtain ⟨A', c', hE, hc', hX⟩ := cutB_l A (x :: l).length c 1 1 ((x :: l).length - 1) rfl rfl (by simp) hlc
    have HT := Lib.hid (rfAt_tail5 h1 (hX _ _ _ hlc hr) (by simp) hc' hlc hcm hlm)
    obtain ⟨b, o, rfl, hb, hb2, hcell⟩ := hr.2.spot (by simp)
    have hx0 := hcell 0 (.int .u8 x) (by simp)
    rw [Nat.add_zero] at hx0
    have hxb := hr.1 x (by simp)
    have hq0 : (((x :: l).length : Nat) : Int) = 0 ↔ False := by simp; omega
    have hqp : 0 < (x :: l).length := by simp
    clear hX hcell hr h1 hlc hcm hc'
    generalize hm2 : (x :: l).length - 1 = m2 at *
    clear hm2
    generalize (x :: l).length = q at *
    go_enter Tryd.func19, Tryd.ntmps19
    go_wp2
    go_ret
    exact ⟨x, rfl, by omega, by omega, HT.out, (fun a l' h => by simp [pByte] at h; exact h.1), chgSet _ _ _ _⟩

set_option maxHeartbeats 1000000 in
theorem fnum5_any (g : Nat) (s : St) (bits : Int) (w : World) (h : RfAt5 w g s) (hb : 1 ≤ bits) (hb2 : bits ≤ 64) :
    Calls Tryd.prog 31 #[.pointer (some ⟨g, 0, none⟩), .int .i64 bits, .bool false] w (fun e w' => ∃ x, e = .returned (.int .u64 x) ∧ 0 ≤ x ∧ x ≤ 18446744073709551615 ∧ RfAt5 w' g (nx (pU bits) s) ∧ (∀ a l', bd s (pU bits) = .ok (a, l') → x % 2 ^ bits.toNat = a) ∧ Chg (fun k => k = g) w w') := by
  rcases s with e | l
  · have HH := Lib.hid h
    obtain ⟨A, n, c, h1, he, he2, hn⟩ := h
    obtain ⟨hc0, hc1, hf0, hf1⟩ := own_cells2 h1
    clear h1
    have hne2 : (e != 0) = true := by simp; omega
    go_enter Tryd.func31, Tryd.ntmps31
    go_wp2
    go_ret
    exact ⟨0, rfl, by omega, by omega, HH.out, (fun a l' h => by cases h), Chg.refl _ _⟩
  · obtain ⟨A, c, h1, hr, hlc, hcm, hlm⟩ := h
    obtain ⟨hc0, hc1, hf0, hf1⟩ := own_cells2 h1
    have HU := Lib.hid (numberU A l l.length c bits w hr.rd rfl (by unfold maxLen; omega) hb hb2)
    have key : ∀ (u x : Int) (m : Nat), rdU bits l = (u, (m : Int), x) → m ≤ l.length → 0 ≤ u → u < 18446744073709551616 → (x = 0 ∨ (0 < x ∧ x ≤ 100)) → Calls Tryd.prog 31 #[.pointer (some ⟨g, 0, none⟩), .int .i64 bits, .bool false] w (fun e w' => ∃ x, e = .returned (.int .u64 x) ∧ 0 ≤ x ∧ x ≤ 18446744073709551615 ∧ RfAt5 w' g (nx (pU bits) (.ok l)) ∧ (∀ a l', bd (.ok l) (pU bits) = .ok (a, l') → x % 2 ^ bits.toNat = a) ∧ Chg (fun k => k = g) w w') := by
      intro u x m hd hm3 hu0 hu1 hx
      obtain ⟨A', c', hE, hc', hX⟩ := cutB_l A l.length c (m : Int) m (l.length - m) rfl rfl hm3 hlc
      have HD := Lib.hid hd
      have HW : Hid (∀ W, W = ((w.setCell ⟨g, 1, none⟩ (.int .i64 x)).setCell ⟨g, 0, none⟩ (.slice A' (l.length - m) c')).drew → RfAt5 W g (nx (pU bits) (.ok l)) ∧ (∀ a l', bd (.ok l) (pU bits) = .ok (a, l') → u % 2 ^ bits.toNat = a) ∧ Chg (fun k => k = g) w W) := by
        rintro W rfl
        have hch : Chg (fun k => k = g) w ((w.setCell ⟨g, 1, none⟩ (.int .i64 x)).setCell ⟨g, 0, none⟩ (.slice A' (l.length - m) c')).drew := ((chgSet _ _ _ _).trans (chgSet _ _ _ _) fun k _ e => e).drew
        have hO : Own ((w.setCell ⟨g, 1, none⟩ (.int .i64 x)).setCell ⟨g, 0, none⟩ (.slice A' (l.length - m) c')).drew g 56 [.slice A' (l.length - m) c', .int .i64 x] := (h1.set 1 _).set 0 _
        have hR := (hX _ _ _ hlc hr).chg hch fun k _ hk e => by omega
        rcases hx with rfl | ⟨hx1, hx2⟩
        · have hp := pU_ok hd
          rw [Int.toNat_natCast] at hp
          rw [nx_ok, hp]
          refine ⟨⟨A', c', by rw [List.length_drop]; exact hO, hR, by rw [List.length_drop]; omega, by omega, by rw [List.length_drop]; omega⟩, (fun a l' h => by rw [bd_ok, hp] at h; injection h with h; injection h), hch⟩
        · have hp := pU_no hd (by omega)
          rw [nx_ok, hp]
          exact ⟨⟨A', _, c', hO, hx1, hx2, by omega⟩, (fun a l' h => by rw [bd_ok, hp] at h; cases h), hch⟩
      clear h1 hr hd hX hlc hcm hc' hm3 hx
      generalize hmm : l.length - m = m2 at *
      clear hmm
      generalize l.length = q at *
      go_enter Tryd.func31, Tryd.ntmps31
      go_wp2_with fail
      refine HU.out.mono ?_
      unfold rdU at HD
      rw [HD.out]
      simp only [three]
      rintro e w' ⟨rfl, rfl⟩
      go_wp2
      go_region
      have H3 := Lib.hid (HW.out _ rfl)
      generalize (World.drew _) = W at *
      go_wp2
      go_ret
      exact ⟨u, rfl, hu0, by omega, H3.out.1, H3.out.2.1, H3.out.2.2⟩
    rcases rdU_cases bits hb hb2 l with hd | hd | ⟨u, m, hd, hu0, hu1, hm1, hm2, hm3⟩
    · exact key 0 3 0 hd (Nat.zero_le _) (by omega) (by omega) (.inr ⟨by omega, by omega⟩)
    · exact key 0 2 0 hd (Nat.zero_le _) (by omega) (by omega) (.inr ⟨by omega, by omega⟩)
    · exact key u 0 m hd hm3 hu0 hu1 (.inl rfl)

theorem fU325_any (g : Nat) (s : St) (w : World) (h : RfAt5 w g s) :
    Calls Tryd.prog 21 #[.pointer (some ⟨g, 0, none⟩)] w (NPost5 .u32 4294967295 (pU 32) g s w) := by
  have HN := Lib.hid (fnum5_any g s 32 w h (by omega) (by omega))
  clear h
  go_enter Tryd.func21, Tryd.ntmps21
  go_wp2_with fail
  refine HN.out.mono ?_
  rintro e w' ⟨x, rfl, h0, h1, h2, h3, h4⟩
  have H2 := Lib.hid (And.intro h2 (And.intro h3 h4))
  clear h2 h3 h4
  go_wp2
  go_ret
  refine ⟨x % 4294967296, ?_, by omega, by omega, H2.out.1, fun a l' h => by rw [← H2.out.2.1 a l' h]; rfl, H2.out.2.2⟩
  first | rfl | simp [IntKind.wrap_u32]

/-- Bytes that the document's Reader took. -/
def TPost5 (p : PR (List Int)) (g : Nat) (s : St) (w : World) (e : Ending) (w' : World) : Prop :=
  ∃ v y, e = .returned v ∧ OwnB w' w.heap.size v y ∧ IsBytes y ∧ RfAt5 w' g (nx p s) ∧ (∀ a l', bd s p = .ok (a, l') → y = a) ∧ Chg (fun k => k = g) w w' ∧ y.length ≤ 1000000
set_option maxHeartbeats 1000000 in
theorem ftake5_any (g : Nat) (s : St) (n : Nat) (w : World) (h : RfAt5 w g s) (hn : n ≤ 4294967295) :
    Calls Tryd.prog 22 #[.pointer (some ⟨g, 0, none⟩), .int .u32 n] w (TPost5 (pBytes n) g s w) := by
  have hn' : (n : Int) ≤ 4294967295 := by omega
  rcases s with e | l
  · have HH := Lib.hid h
    obtain ⟨A, m, c, h1, he, he2, hm⟩ := h
    obtain ⟨hc0, hc1, hf0, hf1⟩ := own_cells2 h1
    clear h1
    have hne : (e == 0) = false := by simp; omega
    have hne2 : (e != 0) = true := by simp; omega
    go_enter Tryd.func22, Tryd.ntmps22
    go_wp2
    go_ret
    exact ⟨_, [], rfl, OwnB.nil _ _, IsBytes.nil, HH.out, (fun a l' h => by cases h), Chg.refl _ _, by simp⟩
  · by_cases hnl : n ≤ l.length
    · have hgw := h.lt
      obtain ⟨A, c, h1, hr, hlc, hcm, hlm⟩ := h
      obtain ⟨hc0, hc1, hf0, hf1⟩ := own_cells2 h1
      obtain ⟨A', c', hE, hc', hX⟩ := cutB_lK .u32 A l.length c (n : Int) n (l.length - n) rfl rfl hnl hlc
      have hb2 : RdX (· < g) w A (l.take n) := ⟨IsBytes.take hr.1 n, by have := hr.2.take n; rwa [← List.map_take] at this⟩
      have hnc : n ≤ c := by omega
      have HR2 := Lib.hid (And.intro hb2 (show n = (l.take n).length by simp; omega))
      have HT := Lib.hid (fun (w' : World) (hb : Below w.heap.size w w') => rfAt_tail5 (h1.later hb) ((hX _ _ _ hlc hr).later hb) hnl hc' hlc hcm hlm)
      have HB := Lib.hid (And.intro (IsBytes.take hr.1 n) (And.intro hnl hlm))
      have H1 := Lib.hid h1
      have hn2 : ¬ (l.length : Int) < n := by omega
      clear h1 hr hX hb2 hlc hcm hc' hnl
      generalize l.length - n = m2 at *
      generalize hq : l.length = q at *
      have HQ := Lib.hid hq
      clear hq
      have hb : Below w.heap.size w (w.alloc (.cells #[] 5)) := (Below.refl _ _).alloc (Nat.le_refl _) _
      have hcA := hb.cell (p := ⟨g, 0, none⟩) hgw
      have HBA := Lib.hid hb
      clear hb
      go_enter Tryd.func22, Tryd.ntmps22
      go_wp2_with (at_builtin; go_loud (refine wpList_app rfl (.tmp 30) (.tmp 36) rfl w.heap.size _ [] rfl (ownB_lit0 w) A n c (l.take n) rfl HR2.out.2 (HR2.out.1.later HBA.out).rd (by simp; omega) (by simp) ?_; intro v1 w1 hv1 hw1; rw [List.nil_append] at hv1; obtain ⟨hd0, hd1, he0, he1⟩ := own_cells2 (H1.out.later (HBA.out.trans hw1)); obtain ⟨A1, c1, rfl, -, -, -⟩ := hv1.rdX HB.out.1; have HV := Lib.hid (And.intro hv1 (HBA.out.trans hw1)); clear hv1 hw1 hc0 hc1 hf0 hf1 hcA; generalize (List.take n l).length = qq at *))
      go_wp2
      go_ret
      have key : pBytes n l = .ok (l.take n, l.drop n) := by unfold pBytes; rw [if_pos (by have := HB.out.2.1; rw [HQ.out]; exact this)]
      refine ⟨_, l.take n, rfl, OwnB.chg HV.out.1 (chgSet _ g _ _) fun k hk e => ?_, HB.out.1, ?_, (fun a l' h => ?_), ((Chg.of_below HV.out.2).trans (chgSet _ _ _ _) fun k _ e => e), ?_⟩
      · have := owns_ge HV.out.1 hk; omega
      · rw [nx_ok, key]; exact HT.out w1 HV.out.2
      · rw [bd_ok, key] at h; injection h with h; injection h
      · have := HB.out.2.2; have := HQ.out; simp; omega
    · have HF := Lib.hid (h.fail 3 (by omega) (by omega))
      have HP : Hid (pBytes n l = .error 3) := by unfold Hid pBytes; rw [if_neg hnl]
      obtain ⟨A, c, h1, -, -, -, hlm⟩ := h
      obtain ⟨hc0, hc1, hf0, hf1⟩ := own_cells2 h1
      have hn2 : (l.length : Int) < n := by omega
      clear h1 hnl
      generalize l.length = q at *
      go_enter Tryd.func22, Tryd.ntmps22
      go_wp2
      go_ret
      exact ⟨_, [], rfl, OwnB.nil _ _, IsBytes.nil, by rw [nx_ok, HP.out]; exact HF.out, (fun a l' h => by rw [bd_ok, HP.out] at h; cases h), chgSet _ _ _ _, by simp⟩

theorem count_fail5 {most x : Int} {s : St} (hx : most < x) (h3 : ∀ a l', bd s (pU 32) = .ok (a, l') → x = a) : nx (pCount most) s = failS 4 (nx (pU 32) s) ∧ ∃ e, nx (pCount most) s = .error e ∧ bd s (pCount most) = .error e := by
  cases s with
  | error e => exact ⟨rfl, e, rfl, rfl⟩
  | ok l =>
    simp only [nx_ok, bd_ok, pCount, seq] at h3 ⊢
    cases hp : pU 32 l with
    | error e => exact ⟨rfl, e, rfl, rfl⟩
    | ok r =>
      have := h3 r.1 r.2 (by rw [hp])
      subst this
      rw [bd_ok, if_pos hx]
      exact ⟨rfl, 4, rfl, rfl⟩
theorem count_ok5 {most x : Int} {s : St} (hx : ¬ most < x) (h3 : ∀ a l', bd s (pU 32) = .ok (a, l') → x = a) : nx (pCount most) s = nx (pU 32) s ∧ ∀ a l', bd s (pCount most) = .ok (a, l') → x = a := by
  cases s with
  | error e => exact ⟨rfl, fun a l' h => by cases h⟩
  | ok l =>
    simp only [nx_ok, bd_ok, pCount, seq] at h3 ⊢
    cases hp : pU 32 l with
    | error e => simp
    | ok r =>
      have := h3 r.1 r.2 (by rw [hp])
      subst this
      rw [bd_ok, if_neg hx]
      exact ⟨rfl, fun a l' h => by injection h with h; injection h⟩

/-- A text that the document's Reader read. -/
def XPost5 (p : PR (List Int)) (g : Nat) (s : St) (w : World) (e : Ending) (w' : World) : Prop :=
  ∃ y, e = .returned (.string (strOfNums y)) ∧ IsBytes y ∧ RfAt5 w' g (nx p s) ∧ (∀ a l', bd s p = .ok (a, l') → y = a) ∧ Chg (fun k => k = g) w w' ∧ y.length ≤ 1000000
theorem RfAt5.own1 {w : World} {g : Nat} {e : Int} (h : RfAt5 w g (.error e)) : w.cell? ⟨g, 1, none⟩ = some (.int .i64 e) := by obtain ⟨A, n, c, h1, _⟩ := h; exact h1.cell 1
theorem RfAt5.own0 {w : World} {g : Nat} {l : List Int} (h : RfAt5 w g (.ok l)) : w.cell? ⟨g, 1, none⟩ = some (.int .i64 0) := by obtain ⟨A, c, h1, _⟩ := h; exact h1.cell 1
theorem RfAt5.cellE {w : World} {g : Nat} {s : St} (h : RfAt5 w g s) : ∃ e, w.cell? ⟨g, 1, none⟩ = some (.int .i64 e) ∧ ((e = 0 ∧ ∃ l, s = .ok l) ∨ (e ≠ 0 ∧ s = .error e)) := by
  cases s with
  | ok l => exact ⟨0, h.own0, .inl ⟨rfl, l, rfl⟩⟩
  | error e => exact ⟨e, h.own1, .inr ⟨by have := h.err e rfl; omega, rfl⟩⟩

theorem ffail05_any (g : Nat) (l : List Int) (w : World) (h : RfAt5 w g (.ok l)) :
    Calls Tryd.prog 23 #[.pointer (some ⟨g, 0, none⟩), .int .i64 0] w (FPost5 g (.ok l) w) := by
  obtain ⟨A, c, h1, h2, h3⟩ := h
  obtain ⟨hc0, hc1, hf0, hf1⟩ := own_cells2 h1
  have HH := Lib.hid (And.intro h1 (And.intro h2 h3))
  clear h1 h2 h3
  generalize hq : l.length = q at *
  have HQ := Lib.hid hq
  clear hq
  go_enter Tryd.func23, Tryd.ntmps23
  go_wp2
  go_end0
  have hc := chgSet w g 1 (.int .i64 0)
  obtain rfl := HQ.out
  exact ⟨⟨_, rfl⟩, ⟨A, c, HH.out.1.set 1 _, HH.out.2.1.chg hc fun k _ hk e => by omega, HH.out.2.2⟩, hc⟩

theorem val_dead5 {s : St} {e : Int} (h : nx pByte s = .error e) : nx pVal s = .error e ∧ ∀ a l', bd s pVal ≠ .ok (a, l') := by
  cases s with
  | error e' => exact ⟨h, fun a l' h => by cases h⟩
  | ok l =>
    simp only [nx_ok, bd_ok, pVal, seq] at h ⊢
    cases hp : pByte l with
    | error e' => rw [hp] at h; exact ⟨h, fun a l' h => by cases h⟩
    | ok r => rw [hp] at h; cases h
end Go.Proofs.YtgbjlcedabkdkaaDoor
