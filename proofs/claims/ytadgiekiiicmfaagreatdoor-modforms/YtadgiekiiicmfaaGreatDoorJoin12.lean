/- Texts joined: SectSrc, Utf8Valid. -/
import Derived.Test.YtadgiekiiicmfaaGreatDoorJoin6
import Derived.Test.YtadgiekiiicmfaaGreatDoorJoin4
import Derived.Test.YtadgiekiiicmfaaGreatDoorJoin11
import Derived.Shelf.Strings.Search1
/- sect: the reader of sections: its parts. -/
namespace Go.Proofs.YtadgiekiiicmfaaGreatDoor
open Go.RowKit
set_option maxRecDepth 100000
set_option linter.unusedVariables false

theorem rbytesX_any (g : Nat) (t : TypeId) (tl : RTl) (s : St) (n : Nat) (w : World) (h : RdrAt w g t tl s) (hn : n ≤ 4294967295) :
    Calls Tryz.prog 111 #[.pointer (some ⟨g, 0, none⟩), .int .i64 n] w (BPost (pBytes n) g t tl s w) := by
  by_cases hm : n ≤ 1000000
  · exact rbytes_any g t tl s n w h hm
  have HL := Lib.hid (rleft_any g t tl s w h)
  have HF := Lib.hid (rfail_any g t tl s 3 w h (by omega) (by omega))
  have hn0 : ¬ (n : Int) < 0 := by omega
  have hs : (lenS s : Int) < n := by
    cases s with
    | error e => simp only [lenS]; omega
    | ok l => obtain ⟨A, c, r, _, _, _, _, hlm, _⟩ := h; simp only [lenS]; omega
  clear h
  go_enter Tryz.func111, Tryz.ntmps111
  go_wp2_with (go_at_call 61; refine HL.out.mono ?_; rintro e w' ⟨rfl, rfl⟩; clear HL)
  refine HF.out.mono ?_
  rintro e w2 ⟨⟨u, rfl⟩, h2, hc⟩
  have HC := Lib.hid (And.intro h2 hc)
  clear h2 hc
  go_wp2
  go_ret
  have key : nx (pBytes n) s = failS 3 s ∧ ∀ a l', bd s (pBytes n) ≠ .ok (a, l') := by
    cases s with
    | error e => exact ⟨rfl, fun a l' h => by cases h⟩
    | ok l =>
      simp only [lenS] at hs
      have : ¬ n ≤ l.length := by omega
      simp [nx_ok, pBytes, this, failS]
  exact ⟨_, [], rfl, OwnB.nil _ _, IsBytes.nil, by rw [key.1]; exact HC.out.1, (fun a l' h => (key.2 a l' h).elim), HC.out.2, by simp⟩
theorem bd_seq {α β : Type} {s : St} {p : PR α} {f : α → PR β} {r : β × List Int} (h : bd s (seq p f) = .ok r) : ∃ a l1, bd s p = .ok (a, l1) ∧ f a l1 = .ok r ∧ nx p s = .ok l1 := by
  cases s with
  | error e => cases h
  | ok l =>
    rw [bd_ok] at h
    obtain ⟨a, l1, h1, h2⟩ := seq_ok (b := r.1) (l' := r.2) (by rw [h])
    exact ⟨a, l1, h1, by rw [h2], by rw [nx_ok, h1]; rfl⟩
theorem nx_seq' {α β : Type} {s : St} {p : PR α} {f : α → PR β} {x : α} (h : ∀ a l', bd s p = .ok (a, l') → x = a) : nx (seq p f) s = nx (f x) (nx p s) := by
  cases s with
  | error e => rfl
  | ok l =>
    rw [nx_ok, nx_ok]
    unfold seq
    cases hp : p l with
    | error e => rfl
    | ok r => rw [h r.1 r.2 (by rw [bd_ok, hp])]; rfl
theorem rsized_any (g : Nat) (t : TypeId) (tl : RTl) (s : St) (w : World) (h : RdrAt w g t tl s) :
    Calls Tryz.prog 114 #[.pointer (some ⟨g, 0, none⟩)] w (BPost pSized g t tl s w) := by
  have HU := Lib.hid (rU32_any g t tl s w h)
  clear h
  go_enter Tryz.func114, Tryz.ntmps114
  go_wp2_with (go_at_call 68; refine HU.out.mono ?_; rintro e w1 ⟨x, rfl, h0, h1, h2, h3, h4⟩; obtain ⟨n, rfl⟩ : ∃ n : Nat, x = n := ⟨x.toNat, by omega⟩; have HN := Lib.hid (rbytesX_any g t tl _ n w1 h2 (by omega)); have H3 := Lib.hid (And.intro h3 h4); clear h2 h3 h4; have hw1 : IntKind.i64.wrap (n : Int) = n := by rw [IntKind.wrap_i64]; omega)
  refine HN.out.mono ?_
  rintro e w2 ⟨v, y, rfl, p1, p2, p3, p4, p5, p6⟩
  have HP := Lib.hid (And.intro p1 (And.intro p2 (And.intro p3 (And.intro p4 (And.intro p5 p6)))))
  clear p1 p2 p3 p4 p5 p6
  go_wp2
  go_ret
  obtain ⟨p1, p2, p3, p4, p5, p6⟩ := HP.out
  obtain ⟨h3, h4⟩ := H3.out
  refine ⟨v, y, rfl, owns_base p1 h4.size, p2, ?_, fun a l' h => ?_, h4.trans p5 fun k _ e => e, p6⟩
  · unfold pSized
    rw [nx_seq' (x := (n : Int)) h3]
    exact p3
  · obtain ⟨m, l1, q1, q2, q3⟩ := bd_seq h
    have := h3 m l1 q1
    subst this
    exact p4 a l' (by rw [q3, bd_ok]; exact q2)
/-- The IDs that may still come, as a string. -/
def mayS (k : Nat) : ByteArray := strOfNums (secOrder.drop k)
def idxS (k : Nat) (id : Int) : Int := match placeIn k id with
  | none => -1
  | some k' => (k' : Int) - k - 1
theorem idx_all : ∀ k : Fin 13, ∀ x : Fin 256, Lib.indexByte (mayS k.val).data.toList ((x.val : Int).toNat.toUInt8) = idxS k.val (x.val : Int) := by decide +kernel
theorem may_size : ∀ k : Fin 13, (mayS k.val).size = 12 - k.val := by decide +kernel
theorem may_cut : ∀ k : Fin 13, ∀ p : Fin 13, k.val + p.val ≤ 12 → ((mayS k.val).extract p.val (mayS k.val).size) = mayS (k.val + p.val) := by decide +kernel
theorem sIdx_any (k : Nat) (x : Int) (w : World) (hk : k ≤ 12) (h0 : 0 ≤ x) (h1 : x ≤ 255) :
    Calls Tryz.prog 154 #[.string (mayS k), .int .u8 x] w fun e w' => e = .returned (.int .i64 (idxS k x)) ∧ w = w' := by
  have hi := idx_all ⟨k, by omega⟩ ⟨x.toNat, by omega⟩
  rw [show (((⟨x.toNat, by omega⟩ : Fin 256).val : Nat) : Int) = x from by simp; omega] at hi
  simp only at hi
  rw [← hi]
  generalize mayS k = m
  clear hi
  go_enter Tryz.func154, Tryz.ntmps154
  go_wp2
  rw [run_callFunc_extern Tryz.func183 (by kernel_rfl) (by kernel_rfl) (by kernel_rfl) (e := Extern.BytealgIndexByte.indexByte) (by kernel_rfl), Lib.run_indexByteString]
  simp only [Result.andThen]
  rw [Oper.upon_value]
  go_wp2
  go_ret
  exact ⟨rfl, rfl⟩
end Go.Proofs.YtadgiekiiicmfaaGreatDoor

/- unicode/utf8.Valid: are these bytes UTF-8? (Written by gen_Utf8Valid.py.) -/
namespace Go.Proofs.YtadgiekiiicmfaaGreatDoor
open Go.RowKit
set_option maxRecDepth 100000
set_option linter.unusedVariables false

set_option maxRecDepth 100000 in
theorem and7' : ∀ X : Fin 256, bits .and .u8 ((X.val : Nat) : Int) 7 = ((X.val % 8 : Nat) : Int) := by decide
theorem byteN {t : List Int} (h : IsBytes t) (k : Nat) : ∃ x : Nat, t.getD k 0 = (x : Int) ∧ x < 256 := by
  have h1 : 0 ≤ t.getD k 0 ∧ t.getD k 0 ≤ 255 := by
    rw [List.getD_eq_getElem?_getD]
    cases hk : t[k]? with
    | none => simp
    | some z => simpa using h z (List.mem_of_getElem? hk)
  exact ⟨(t.getD k 0).toNat, by omega, by omega⟩
theorem asc1 {t : List Int} {x : Nat} (h : t.getD 0 0 = (x : Int)) (hx : x < 128) : AscI t 1 := by
  cases t with
  | nil => intro z hz; simp at hz
  | cons y t => intro z hz; simp at hz h; omega
/-- .. as a region that draws wants it. -/
abbrev QWord (A : Option Addr) (m c : Nat) (x : Nat) (wq : World) : Prop := ∀ k, Calls Tryz.prog 184 #[.slice A m c] (wq.drewN k) fun e w'' => e = .returned (.int .u64 (x : Nat)) ∧ ∃ q, w'' = wq.drewN q
/-- One word of eight bytes, read in any world that has drawn. -/
def WordAt (A : Option Addr) (m c : Nat) (x : Nat) (wq : World) : Prop := ∀ k, Calls Tryz.prog 184 #[.slice A m c] (wq.drewN k) fun e w' => e = .returned (.int .u64 (x : Nat)) ∧ ∃ q, w' = (wq.drewN k).drewN q
theorem qword {A : Option Addr} {m c x : Nat} {wq : World} (h : WordAt A m c x wq) : QWord A m c x wq := fun k => Calls.quiet_of (h k)
theorem word_at {X : Nat → Prop} {w wq : World} {A : Option Addr} {t : List Int} {m c : Nat} (h : RdX X w A t) (hb : Below w.heap.size w wq) (hm : m = t.length) (h8 : 8 ≤ m) : WordAt A m c (wdN t) wq :=
  fun k => word_any A t m c _ ((h.later hb).drewN k) hm h8
theorem word_one {X : Nat → Prop} {w : World} {A : Option Addr} {t : List Int} {m c : Nat} (hr : RdX X w A t) (hm : m = t.length) (h8 : 8 ≤ m) : ∃ x, x < 18446744073709551616 ∧ (∀ wq, Below w.heap.size w wq → WordAt A m c x wq) ∧ (x &&& 9259542123273814144 = 0 → AscI t 8) :=
  ⟨wdN t, wdN_lt t, fun wq hb => word_at hr hb hm h8, (wdN_asc t hr.1 (by omega)).1⟩
set_option maxHeartbeats 64000000 in
set_option maxRecDepth 1000000 in
theorem valid_any {X : Nat → Prop} (A : Option Addr) (l : List Int) (n c : Nat) (w : World) (h : RdX X w A l) (hn : n = l.length) (hc : n ≤ c) (hT : Tabs w) :
    Calls Tryz.prog 173 #[.slice A n c] w fun e w' => e = .returned (.bool (vd l)) ∧ Below w.heap.size w w' := by
  obtain ⟨A0, hE0, hX0⟩ := cutMax (X := X) A n c hc
  have H0 := Lib.hid (hX0 w l hn.symm h)
  have HT := Lib.hid hT
  have HN := Lib.hid hn
  obtain ⟨ANS, hANS⟩ : ∃ ANS, vd l = ANS := ⟨_, rfl⟩
  rw [hANS]
  have HA := Lib.hid hANS
  clear h hT hn hX0 hANS hc
  go_enter Tryz.func173, Tryz.ntmps173
  go_wp2
  go_loopg [0] (n + 1) (fun gk s0 wx => Below w.heap.size w wx ∧ ∃ (A : Option Addr) (t : List Int) (m c : Nat), s0 = .slice A m c ∧ m ≤ c ∧ m < gk ∧ Hid (RdX X w A t ∧ m = t.length ∧ vd t = ANS))
  case atStart => exact ⟨Below.refl _ _, A0, l, n, n, rfl, Nat.le_refl _, by omega, H0.out, HN.out, HA.out⟩
  case round =>
    obtain ⟨hbw, A, t, m, c, rfl, hmc, hg, HR⟩ := hrel
    clear hE0 H0 HN HA
    have HBW := Lib.hid hbw
    clear hbw
    by_cases h0 : 0 < m
    · obtain ⟨g', rfl⟩ : ∃ g', gk = g' + 1 := ⟨gk - 1, by omega⟩
      obtain ⟨b, o, rfl, hbB, hcell⟩ := ((HR.out.1.later HBW.out).rd).spot (j := 0) (by rw [← HR.out.2.1]; exact h0)
      have c0 := hcell 0 (by rw [← HR.out.2.1]; exact h0)
      rw [Nat.add_zero] at c0
      obtain ⟨x0, hx0, x0lt⟩ := byteN HR.out.1.1 0
      rw [hx0] at c0
      have HX0 := Lib.hid hx0
      have h0z : (0 : Int) < (m : Int) := by omega
      clear hx0
      by_cases hasc : x0 < 128
      · as_aux_lemma =>
          have hascz : (x0 : Int) < 128 := by omega
          obtain ⟨m1, hm1⟩ : ∃ m1, m1 + 1 = m := ⟨m - 1, by omega⟩
          obtain ⟨A1, c1, hE1, hmc1, hr1, hl1⟩ := cutK w _ t m c 1 m1 1 rfl HR.out.1 HR.out.2.1 hmc hm1
          have HR1 := Lib.hid (And.intro hr1 (And.intro hl1 ((vd_skip t HR.out.1.1 1 (asc1 HX0.out hasc)).trans HR.out.2.2)))
          clear hr1 hl1 hcell HT HR HX0
          generalize t.drop 1 = t1 at HR1
          by_cases c8 : 8 < m1
          · have c8z : (8 : Int) < (m1 : Int) := by omega
            obtain ⟨W1, lW1, cW1, kW1⟩ := word_one (c := c1) HR1.out.1 HR1.out.2.1 (by omega)
            have CW1 : Hid (Calls Tryz.prog 184 #[.slice A1 m1 c1] wr fun e w' => e = .returned (.int .u64 (W1 : Nat)) ∧ ∃ q, w' = wr.drewN q) := Lib.hid (cW1 wr HBW.out 0)
            have hand1 : bits .and .u64 (W1 : Int) 9259542123273814144 = ((W1 &&& 9259542123273814144 : Nat) : Int) := u64_and_nat W1 9259542123273814144 lW1 (by omega)
            clear cW1
            obtain ⟨Z1, hZ1⟩ : ∃ Z1, W1 &&& 9259542123273814144 = Z1 := ⟨_, rfl⟩
            rw [hZ1] at hand1 kW1
            clear hZ1
            by_cases hz1 : Z1 = 0
            · have hz1b : ((Z1 : Int) == 0) = true := by simp [hz1]
              obtain ⟨m2, hm2⟩ : ∃ m2, m2 + 8 = m1 := ⟨m1 - 8, by omega⟩
              obtain ⟨A2, c2, hE2, hmc2, hr2, hl2⟩ := cutK w _ t1 m1 c1 8 m2 8 rfl HR1.out.1 HR1.out.2.1 hmc1 hm2
              have HR2 := Lib.hid (And.intro hr2 (And.intro hl2 ((vd_skip t1 HR1.out.1.1 8 (kW1 hz1)).trans HR1.out.2.2)))
              clear hr2 hl2 HR1 kW1
              generalize t1.drop 8 = t2 at HR2
              go_wp2_with (go_at_call 184; refine CW1.out.mono ?_; rintro e W1' ⟨rfl, q1, rfl⟩)
              have HB1 := Lib.hid (below_drewN' HBW.out q1)
              generalize wr.drewN q1 = wq at HB1 ⊢
              clear CW1 HBW c0
              by_cases c16 : 16 < m2
              · have c16z : (16 : Int) < (m2 : Int) := by omega
                obtain ⟨W2, lW2, cW2, kW2⟩ := word_one (c := c2) HR2.out.1 HR2.out.2.1 (by omega)
                have CW2 : Hid (QWord A2 m2 c2 W2 wq) := Lib.hid (qword (cW2 wq HB1.out))
                obtain ⟨m2b, hm2b⟩ : ∃ m2b, m2b + 8 = m2 := ⟨m2 - 8, by omega⟩
                obtain ⟨A2b, c2b, hE2b, hmc2b, hr2b, hl2b⟩ := cutK w _ t2 m2 c2 8 m2b 8 rfl HR2.out.1 HR2.out.2.1 hmc2 hm2b
                obtain ⟨W3, lW3, cW3, kW3⟩ := word_one (c := c2b) hr2b hl2b (by omega)
                have CW3 : Hid (QWord A2b m2b c2b W3 wq) := Lib.hid (qword (cW3 wq HB1.out))
                have hor2 : bits .or .u64 (W2 : Int) (W3 : Int) = ((W2 ||| W3 : Nat) : Int) := u64_or_nat W2 W3 lW2 lW3
                have lor2 : W2 ||| W3 < 18446744073709551616 := Nat.or_lt_two_pow (n := 64) lW2 lW3
                have hand2 : bits .and .u64 ((W2 ||| W3 : Nat) : Int) 9259542123273814144 = (((W2 ||| W3) &&& 9259542123273814144 : Nat) : Int) := u64_and_nat _ 9259542123273814144 lor2 (by omega)
                have k2 : (W2 ||| W3) &&& 9259542123273814144 = 0 → AscI t2 16 := fun h0' => by
                  obtain ⟨e1, e2⟩ := (Lib.or_mask W2 W3 _).1 h0'
                  exact asc_add t2 8 8 (kW2 e1) (kW3 e2)
                obtain ⟨O2, hO2⟩ : ∃ O2, W2 ||| W3 = O2 := ⟨_, rfl⟩
                rw [hO2] at hor2 hand2 k2
                obtain ⟨Z2, hZ2⟩ : ∃ Z2, O2 &&& 9259542123273814144 = Z2 := ⟨_, rfl⟩
                rw [hZ2] at hand2 k2
                clear kW2 kW3 lor2 hO2 hZ2 cW2 cW3 hr2b hl2b hE1 hE2
                by_cases hz2 : Z2 = 0
                · as_aux_lemma =>
                    have hz2b : ((Z2 : Int) == 0) = true := by simp [hz2]
                    obtain ⟨m3, hm3⟩ : ∃ m3, m3 + 16 = m2 := ⟨m2 - 16, by omega⟩
                    obtain ⟨A3, c3, hE3, hmc3, hr3, hl3⟩ := cutK w _ t2 m2 c2 16 m3 16 rfl HR2.out.1 HR2.out.2.1 hmc2 hm3
                    have HR3 := Lib.hid (And.intro hr3 (And.intro hl3 ((vd_skip t2 HR2.out.1.1 16 (k2 hz2)).trans HR2.out.2.2)))
                    clear hr3 hl3 HR2 k2
                    generalize t2.drop 16 = t3 at HR3
                    go_quiet (first | (go_at_call 184; with_reducible exact CW2.out _) | (go_at_call 184; with_reducible exact CW3.out _))
                    have HB2 := Lib.hid (below_drewN' HB1.out nq)
                    generalize wq.drewN nq = wq2 at HB2 ⊢
                    clear CW2 CW3 HB1 hE2b
                    go_wp2
                    go_loopg [0] (m3 + 1) (fun g2 s0 wx => Below w.heap.size w wx ∧ ∃ (A : Option Addr) (t : List Int) (m c : Nat), s0 = .slice A m c ∧ m ≤ c ∧ m < g2 ∧ m ≤ m3 ∧ Hid (RdX X w A t ∧ m = t.length ∧ vd t = ANS))
                    case atStart => exact ⟨HB2.out, A3, t3, m3, c3, rfl, hmc3, by omega, Nat.le_refl _, HR3.out⟩
                    case round =>
                      obtain ⟨hbu, Au, u, mu, cu, rfl, hmcu, hgu, hut, HU⟩ := hrel
                      have HBU := Lib.hid hbu
                      clear hbu hE3 HR3 HB2
                      by_cases c32 : 32 < mu
                      · obtain ⟨g3, rfl⟩ : ∃ g3, gk = g3 + 1 := ⟨gk - 1, by omega⟩
                        have c32z : (32 : Int) < (mu : Int) := by omega
                        obtain ⟨B0, lB0, cB0, kB0⟩ := word_one (c := cu) HU.out.1 HU.out.2.1 (by omega)
                        have CB0 : Hid (QWord Au mu cu B0 wr) := Lib.hid (qword (cB0 wr HBU.out))
                        obtain ⟨mb, hmb⟩ : ∃ mb, mb + 8 = mu := ⟨mu - 8, by omega⟩
                        obtain ⟨Ab, cb, hEb, hmcb, hrb, hlb⟩ := cutK w _ u mu cu 8 mb 8 rfl HU.out.1 HU.out.2.1 hmcu hmb
                        obtain ⟨B1, lB1, cB1, kB1⟩ := word_one (c := cb) hrb hlb (by omega)
                        have CB1 : Hid (QWord Ab mb cb B1 wr) := Lib.hid (qword (cB1 wr HBU.out))
                        obtain ⟨mc, hmc⟩ : ∃ mc, mc + 16 = mu := ⟨mu - 16, by omega⟩
                        obtain ⟨Ac, cc, hEc, hmcc, hrc, hlc⟩ := cutK w _ u mu cu 16 mc 16 rfl HU.out.1 HU.out.2.1 hmcu hmc
                        obtain ⟨B2, lB2, cB2, kB2⟩ := word_one (c := cc) hrc hlc (by omega)
                        have CB2 : Hid (QWord Ac mc cc B2 wr) := Lib.hid (qword (cB2 wr HBU.out))
                        obtain ⟨md, hmd⟩ : ∃ md, md + 24 = mu := ⟨mu - 24, by omega⟩
                        obtain ⟨Ad, cd, hEd, hmcd, hrd, hld⟩ := cutK w _ u mu cu 24 md 24 rfl HU.out.1 HU.out.2.1 hmcu hmd
                        obtain ⟨B3, lB3, cB3, kB3⟩ := word_one (c := cd) hrd hld (by omega)
                        have CB3 : Hid (QWord Ad md cd B3 wr) := Lib.hid (qword (cB3 wr HBU.out))
                        have ho1 : bits .or .u64 (B0 : Int) (B1 : Int) = ((B0 ||| B1 : Nat) : Int) := u64_or_nat B0 B1 lB0 lB1
                        have ho2 : bits .or .u64 (B2 : Int) (B3 : Int) = ((B2 ||| B3 : Nat) : Int) := u64_or_nat B2 B3 lB2 lB3
                        have lo1 : B0 ||| B1 < 18446744073709551616 := Nat.or_lt_two_pow (n := 64) lB0 lB1
                        have lo2 : B2 ||| B3 < 18446744073709551616 := Nat.or_lt_two_pow (n := 64) lB2 lB3
                        have ho3 : bits .or .u64 ((B0 ||| B1 : Nat) : Int) ((B2 ||| B3 : Nat) : Int) = (((B0 ||| B1) ||| (B2 ||| B3) : Nat) : Int) := u64_or_nat _ _ lo1 lo2
                        have lo3 : (B0 ||| B1) ||| (B2 ||| B3) < 18446744073709551616 := Nat.or_lt_two_pow (n := 64) lo1 lo2
                        have hand3 : bits .and .u64 (((B0 ||| B1) ||| (B2 ||| B3) : Nat) : Int) 9259542123273814144 = ((((B0 ||| B1) ||| (B2 ||| B3)) &&& 9259542123273814144 : Nat) : Int) := u64_and_nat _ 9259542123273814144 lo3 (by omega)
                        have k3 : ((B0 ||| B1) ||| (B2 ||| B3)) &&& 9259542123273814144 = 0 → AscI u 32 := fun h0' => by
                          obtain ⟨e01, e23⟩ := (Lib.or_mask _ _ _).1 h0'
                          obtain ⟨e0, e1⟩ := (Lib.or_mask _ _ _).1 e01
                          obtain ⟨e2, e3⟩ := (Lib.or_mask _ _ _).1 e23
                          have s16 : AscI u 16 := asc_add u 8 8 (kB0 e0) (kB1 e1)
                          have s24 : AscI u 24 := asc_add u 16 8 s16 (kB2 e2)
                          exact asc_add u 24 8 s24 (kB3 e3)
                        obtain ⟨P1, hP1⟩ : ∃ P1, B0 ||| B1 = P1 := ⟨_, rfl⟩
                        obtain ⟨P2, hP2⟩ : ∃ P2, B2 ||| B3 = P2 := ⟨_, rfl⟩
                        rw [hP1, hP2] at ho3 hand3 k3
                        rw [hP1] at ho1
                        rw [hP2] at ho2
                        obtain ⟨P3, hP3⟩ : ∃ P3, P1 ||| P2 = P3 := ⟨_, rfl⟩
                        rw [hP3] at ho3 hand3 k3
                        obtain ⟨Z3, hZ3⟩ : ∃ Z3, P3 &&& 9259542123273814144 = Z3 := ⟨_, rfl⟩
                        rw [hZ3] at hand3 k3
                        clear kB0 kB1 kB2 kB3 lo1 lo2 lo3 hP1 hP2 hP3 hZ3 cB0 cB1 cB2 cB3 hrb hrc hrd hlb hlc hld
                        by_cases hz3 : Z3 = 0
                        · as_aux_lemma =>
                            have hz3b : ((Z3 : Int) == 0) = true := by simp [hz3]
                            obtain ⟨m4, hm4⟩ : ∃ m4, m4 + 32 = mu := ⟨mu - 32, by omega⟩
                            obtain ⟨A4, c4, hE4, hmc4, hr4, hl4⟩ := cutK w _ u mu cu 32 m4 32 rfl HU.out.1 HU.out.2.1 hmcu hm4
                            have HR4 := Lib.hid (And.intro hr4 (And.intro hl4 ((vd_skip u HU.out.1.1 32 (k3 hz3)).trans HU.out.2.2)))
                            clear hr4 hl4 k3
                            go_wp2_with fail
                            go_quiet (first | (go_at_call 184; with_reducible exact CB0.out _) | (go_at_call 184; with_reducible exact CB1.out _) | (go_at_call 184; with_reducible exact CB2.out _) | (go_at_call 184; with_reducible exact CB3.out _))
                            go_wp2
                            go_roundg g3
                            case measure => omega
                            case rel => exact ⟨below_drewN' HBU.out nq, A4, _, m4, c4, rfl, hmc4, by omega, by omega, HR4.out⟩
                        · as_aux_lemma =>
                            have hz3b : ((Z3 : Int) == 0) = false := by simp; omega
                            clear k3
                            go_wp2_with fail
                            go_quiet (first | (go_at_call 184; with_reducible exact CB0.out _) | (go_at_call 184; with_reducible exact CB1.out _) | (go_at_call 184; with_reducible exact CB2.out _) | (go_at_call 184; with_reducible exact CB3.out _))
                            go_wp2
                            go_roundg g'
                            case measure => omega
                            case rel => exact ⟨below_drewN' HBU.out nq, Au, u, mu, cu, rfl, hmcu, by omega, HU.out⟩
                      · have c32z : ¬ ((32 : Int) < (mu : Int)) := by omega
                        have c32b : decide ((32 : Int) < (mu : Int)) = false := decide_eq_false c32z
                        go_wp2_with fail
                        go_quiet (fail)
                        go_wp2
                        go_roundg g'
                        case measure => omega
                        case rel => exact ⟨below_drewN' HBU.out nq, Au, u, mu, cu, rfl, hmcu, by omega, HU.out⟩
                · as_aux_lemma =>
                    have hz2b : ((Z2 : Int) == 0) = false := by simp; omega
                    clear k2
                    go_quiet (first | (go_at_call 184; with_reducible exact CW2.out _) | (go_at_call 184; with_reducible exact CW3.out _))
                    go_wp2
                    go_roundg g'
                    case measure => omega
                    case rel => exact ⟨below_drewN' HB1.out nq, A2, t2, m2, c2, rfl, hmc2, by omega, HR2.out⟩
              · have c16z : ¬ ((16 : Int) < (m2 : Int)) := by omega
                have c16b : decide ((16 : Int) < (m2 : Int)) = false := decide_eq_false c16z
                go_quiet (fail)
                go_wp2
                go_roundg g'
                case measure => omega
                case rel => exact ⟨below_drewN' HB1.out nq, A2, t2, m2, c2, rfl, hmc2, by omega, HR2.out⟩
            · have hz1b : ((Z1 : Int) == 0) = false := by simp; omega
              clear kW1
              go_wp2_with (go_at_call 184; refine CW1.out.mono ?_; rintro e W1' ⟨rfl, q1, rfl⟩)
              go_roundg g'
              case measure => omega
              case rel => exact ⟨below_drewN' HBW.out q1, A1, t1, m1, c1, rfl, hmc1, by omega, HR1.out⟩
          · have c8z : ¬ ((8 : Int) < (m1 : Int)) := by omega
            go_wp2
            go_roundg g'
            case measure => omega
            case rel => exact ⟨HBW.out, A1, t1, m1, c1, rfl, hmc1, by omega, HR1.out⟩
      · have hascz : ¬ ((x0 : Int) < 128) := by omega
        obtain ⟨x1, hx1, l1⟩ := byteN HR.out.1.1 1
        obtain ⟨x2, hx2, l2⟩ := byteN HR.out.1.1 2
        obtain ⟨x3, hx3, l3⟩ := byteN HR.out.1.1 3
        have hlead := vd_lead t HR.out.1.1 (fun h => by have := HR.out.2.1; rw [h] at this; simp at this; omega) (by rw [HX0.out]; omega)
        rw [HX0.out, hx1, hx2, hx3, ← HR.out.2.1, HR.out.2.2] at hlead
        simp only [Int.toNat_natCast] at hlead
        have hTr := HT.out.later HBW.out
        have hc0 := hTr.1 x0 x0lt
        have hXlt : Lib.firstT x0 < 256 := by rcases Lib.firstT_cases x0 with h | h | h | h | h | h | h | h | h <;> omega
        obtain ⟨X', hX⟩ : ∃ X', Lib.firstT x0 = X' := ⟨_, rfl⟩
        rw [hX] at hc0 hXlt hlead
        have h7 := and7' ⟨X', hXlt⟩
        simp only at h7
        have ha0 : wr.cell? ⟨1, X' / 16 * 2, none⟩ = some (.int .u8 (Lib.accLo (X' / 16))) := by rw [Nat.mul_comm]; exact (hTr.2 (X' / 16) (by omega)).1
        have ha1 : wr.cell? ⟨1, X' / 16 * 2 + 1, none⟩ = some (.int .u8 (Lib.accHi (X' / 16))) := by rw [Nat.mul_comm]; exact (hTr.2 (X' / 16) (by omega)).2
        obtain ⟨LO, hLO⟩ : ∃ LO, Lib.accLo (X' / 16) = LO := ⟨_, rfl⟩
        obtain ⟨HI, hHI⟩ : ∃ HI, Lib.accHi (X' / 16) = HI := ⟨_, rfl⟩
        rw [hLO] at ha0 hlead
        rw [hHI] at ha1 hlead
        obtain ⟨SZ, hSZ⟩ : ∃ SZ, X' % 8 = SZ := ⟨_, rfl⟩
        rw [hSZ] at hlead
        have HCELL : Hid (∀ i, i < m → wr.cell? ⟨b, o + i, none⟩ = some (.int .u8 (t.getD i 0))) := fun i hi => hcell i (by rw [← HR.out.2.1]; exact hi)
        have HX1 := Lib.hid hx1
        have HX2 := Lib.hid hx2
        have HX3 := Lib.hid hx3
        clear hTr HT hX hLO hHI hcell hx1 hx2 hx3
        by_cases s2 : SZ = 2
        · as_aux_lemma =>
            subst s2
            have hSZz : (X' : Int) % 8 = 2 := by omega
            simp only [Lib.checkN, Nat.reduceEqDiff, if_true, if_false] at hlead
            have HLEAD := Lib.hid hlead
            clear hlead
            go_upto_region 18 with fail
            have HBA := Lib.hid (HBW.out.alloc HBW.out.size (.cells #[.int .u8 LO, .int .u8 HI] 230))
            obtain ⟨wa, hwa⟩ : ∃ wa, wr.alloc (.cells #[.int .u8 LO, .int .u8 HI] 230) = wa := ⟨_, rfl⟩
            have HCA : Hid (∀ i, wa.cell? ⟨b, o + i, none⟩ = wr.cell? ⟨b, o + i, none⟩) := fun i => by rw [← hwa]; exact ((Below.refl wr.heap.size wr).alloc (Nat.le_refl _) _).cell (by simpa using hbB)
            have d0 : wa.cell? ⟨wr.heap.size, 0, none⟩ = some (.int .u8 LO) := by rw [← hwa]; simp
            have d1 : wa.cell? ⟨wr.heap.size, 1, none⟩ = some (.int .u8 HI) := by rw [← hwa]; simp
            rw [hwa] at HBA ⊢
            clear hwa ha0 ha1 hc0 c0
            go_cut [103] from 85 to 103 (fun c wx => c = .bool (decide (m < 2 ∨ x1 < LO ∨ HI < x1)) ∧ Hid (Below w.heap.size w wx))
            case first =>
              by_cases q0 : m < 2
              · have q0z : (m : Int) < 2 := by omega
                go_quiet (fail)
                go_wp2
                go_meet
                exact ⟨congrArg Value.bool (decide_eq_true (p := m < 2 ∨ x1 < LO ∨ HI < x1) (by omega)).symm, below_drewN' HBA.out _⟩
              · have q0z : ¬ ((m : Int) < 2) := by omega
                have cc1 : wa.cell? ⟨b, o + 1, none⟩ = some (.int .u8 x1) := by rw [HCA.out, HCELL.out 1 (by omega), HX1.out]
                have hz1 : (1 : Int) < (m : Int) := by omega
                by_cases q1 : x1 < LO
                · have q1z : (x1 : Int) < (LO : Int) := by omega
                  go_quiet (fail)
                  go_wp2
                  go_meet
                  exact ⟨congrArg Value.bool (decide_eq_true (p := m < 2 ∨ x1 < LO ∨ HI < x1) (by omega)).symm, below_drewN' HBA.out _⟩
                · have q1z : ¬ ((x1 : Int) < (LO : Int)) := by omega
                  by_cases q2 : HI < x1
                  · have q2z : (HI : Int) < (x1 : Int) := by omega
                    go_quiet (fail)
                    go_wp2
                    go_meet
                    exact ⟨congrArg Value.bool (decide_eq_true (p := m < 2 ∨ x1 < LO ∨ HI < x1) (by omega)).symm, below_drewN' HBA.out _⟩
                  · have q2z : ¬ ((HI : Int) < (x1 : Int)) := by omega
                    go_quiet (fail)
                    go_wp2
                    go_meet
                    exact ⟨congrArg Value.bool (decide_eq_false (p := m < 2 ∨ x1 < LO ∨ HI < x1) (by omega)).symm, below_drewN' HBA.out _⟩
            case rest =>
              obtain ⟨rfl, HBC⟩ := hcut
              by_cases hb : m < 2 ∨ x1 < LO ∨ HI < x1
              · have hbd : decide (m < 2 ∨ x1 < LO ∨ HI < x1) = true := decide_eq_true hb
                have hans : ANS = false := by rw [HLEAD.out, if_pos hb]
                go_wp2
                all_goals (go_ret; exact ⟨by first | rfl | rw [hans], HBC.out⟩)
              · have hbd : decide (m < 2 ∨ x1 < LO ∨ HI < x1) = false := decide_eq_false hb
                have hans : vd (t.drop 2) = ANS := by rw [HLEAD.out, if_neg hb]
                obtain ⟨mk, hmk⟩ : ∃ mk, mk + 2 = m := ⟨m - 2, by omega⟩
                obtain ⟨Ak, ck, hEk, hmck, hrk, hlk⟩ := cutK w _ t m c 2 mk 2 rfl HR.out.1 HR.out.2.1 hmc hmk
                have HRk := Lib.hid (And.intro hrk (And.intro hlk hans))
                clear hrk hlk hans
                go_wp2
                go_roundg g'
                case measure => omega
                case rel => exact ⟨HBC.out, Ak, _, mk, ck, rfl, hmck, by omega, HRk.out⟩
        by_cases s3 : SZ = 3
        · as_aux_lemma =>
            subst s3
            have hSZz : (X' : Int) % 8 = 3 := by omega
            simp only [Lib.checkN, Nat.reduceEqDiff, if_true, if_false] at hlead
            have HLEAD := Lib.hid hlead
            clear hlead
            go_upto_region 22 with fail
            have HBA := Lib.hid (HBW.out.alloc HBW.out.size (.cells #[.int .u8 LO, .int .u8 HI] 230))
            obtain ⟨wa, hwa⟩ : ∃ wa, wr.alloc (.cells #[.int .u8 LO, .int .u8 HI] 230) = wa := ⟨_, rfl⟩
            have HCA : Hid (∀ i, wa.cell? ⟨b, o + i, none⟩ = wr.cell? ⟨b, o + i, none⟩) := fun i => by rw [← hwa]; exact ((Below.refl wr.heap.size wr).alloc (Nat.le_refl _) _).cell (by simpa using hbB)
            have d0 : wa.cell? ⟨wr.heap.size, 0, none⟩ = some (.int .u8 LO) := by rw [← hwa]; simp
            have d1 : wa.cell? ⟨wr.heap.size, 1, none⟩ = some (.int .u8 HI) := by rw [← hwa]; simp
            rw [hwa] at HBA ⊢
            clear hwa ha0 ha1 hc0 c0
            go_cut [138] from 108 to 138 (fun c wx => c = .bool (decide (m < 3 ∨ x1 < LO ∨ HI < x1 ∨ x2 < 128 ∨ 191 < x2)) ∧ Hid (Below w.heap.size w wx))
            case first =>
              by_cases q0 : m < 3
              · have q0z : (m : Int) < 3 := by omega
                go_quiet (fail)
                go_wp2
                go_meet
                exact ⟨congrArg Value.bool (decide_eq_true (p := m < 3 ∨ x1 < LO ∨ HI < x1 ∨ x2 < 128 ∨ 191 < x2) (by omega)).symm, below_drewN' HBA.out _⟩
              · have q0z : ¬ ((m : Int) < 3) := by omega
                have cc1 : wa.cell? ⟨b, o + 1, none⟩ = some (.int .u8 x1) := by rw [HCA.out, HCELL.out 1 (by omega), HX1.out]
                have hz1 : (1 : Int) < (m : Int) := by omega
                have cc2 : wa.cell? ⟨b, o + 2, none⟩ = some (.int .u8 x2) := by rw [HCA.out, HCELL.out 2 (by omega), HX2.out]
                have hz2 : (2 : Int) < (m : Int) := by omega
                by_cases q1 : x1 < LO
                · have q1z : (x1 : Int) < (LO : Int) := by omega
                  go_quiet (fail)
                  go_wp2
                  go_meet
                  exact ⟨congrArg Value.bool (decide_eq_true (p := m < 3 ∨ x1 < LO ∨ HI < x1 ∨ x2 < 128 ∨ 191 < x2) (by omega)).symm, below_drewN' HBA.out _⟩
                · have q1z : ¬ ((x1 : Int) < (LO : Int)) := by omega
                  by_cases q2 : HI < x1
                  · have q2z : (HI : Int) < (x1 : Int) := by omega
                    go_quiet (fail)
                    go_wp2
                    go_meet
                    exact ⟨congrArg Value.bool (decide_eq_true (p := m < 3 ∨ x1 < LO ∨ HI < x1 ∨ x2 < 128 ∨ 191 < x2) (by omega)).symm, below_drewN' HBA.out _⟩
                  · have q2z : ¬ ((HI : Int) < (x1 : Int)) := by omega
                    by_cases q3 : x2 < 128
                    · have q3z : (x2 : Int) < 128 := by omega
                      go_quiet (fail)
                      go_wp2
                      go_meet
                      exact ⟨congrArg Value.bool (decide_eq_true (p := m < 3 ∨ x1 < LO ∨ HI < x1 ∨ x2 < 128 ∨ 191 < x2) (by omega)).symm, below_drewN' HBA.out _⟩
                    · have q3z : ¬ ((x2 : Int) < 128) := by omega
                      by_cases q4 : 191 < x2
                      · have q4z : (191 : Int) < (x2 : Int) := by omega
                        go_quiet (fail)
                        go_wp2
                        go_meet
                        exact ⟨congrArg Value.bool (decide_eq_true (p := m < 3 ∨ x1 < LO ∨ HI < x1 ∨ x2 < 128 ∨ 191 < x2) (by omega)).symm, below_drewN' HBA.out _⟩
                      · have q4z : ¬ ((191 : Int) < (x2 : Int)) := by omega
                        go_quiet (fail)
                        go_wp2
                        go_meet
                        exact ⟨congrArg Value.bool (decide_eq_false (p := m < 3 ∨ x1 < LO ∨ HI < x1 ∨ x2 < 128 ∨ 191 < x2) (by omega)).symm, below_drewN' HBA.out _⟩
            case rest =>
              obtain ⟨rfl, HBC⟩ := hcut
              by_cases hb : m < 3 ∨ x1 < LO ∨ HI < x1 ∨ x2 < 128 ∨ 191 < x2
              · have hbd : decide (m < 3 ∨ x1 < LO ∨ HI < x1 ∨ x2 < 128 ∨ 191 < x2) = true := decide_eq_true hb
                have hans : ANS = false := by rw [HLEAD.out, if_pos hb]
                go_wp2
                all_goals (go_ret; exact ⟨by first | rfl | rw [hans], HBC.out⟩)
              · have hbd : decide (m < 3 ∨ x1 < LO ∨ HI < x1 ∨ x2 < 128 ∨ 191 < x2) = false := decide_eq_false hb
                have hans : vd (t.drop 3) = ANS := by rw [HLEAD.out, if_neg hb]
                obtain ⟨mk, hmk⟩ : ∃ mk, mk + 3 = m := ⟨m - 3, by omega⟩
                obtain ⟨Ak, ck, hEk, hmck, hrk, hlk⟩ := cutK w _ t m c 3 mk 3 rfl HR.out.1 HR.out.2.1 hmc hmk
                have HRk := Lib.hid (And.intro hrk (And.intro hlk hans))
                clear hrk hlk hans
                go_wp2
                go_roundg g'
                case measure => omega
                case rel => exact ⟨HBC.out, Ak, _, mk, ck, rfl, hmck, by omega, HRk.out⟩
        by_cases s4 : SZ = 4
        · as_aux_lemma =>
            subst s4
            have hSZz : (X' : Int) % 8 = 4 := by omega
            simp only [Lib.checkN, Nat.reduceEqDiff, if_true, if_false] at hlead
            have HLEAD := Lib.hid hlead
            clear hlead
            go_upto_region 26 with fail
            have HBA := Lib.hid (HBW.out.alloc HBW.out.size (.cells #[.int .u8 LO, .int .u8 HI] 230))
            obtain ⟨wa, hwa⟩ : ∃ wa, wr.alloc (.cells #[.int .u8 LO, .int .u8 HI] 230) = wa := ⟨_, rfl⟩
            have HCA : Hid (∀ i, wa.cell? ⟨b, o + i, none⟩ = wr.cell? ⟨b, o + i, none⟩) := fun i => by rw [← hwa]; exact ((Below.refl wr.heap.size wr).alloc (Nat.le_refl _) _).cell (by simpa using hbB)
            have d0 : wa.cell? ⟨wr.heap.size, 0, none⟩ = some (.int .u8 LO) := by rw [← hwa]; simp
            have d1 : wa.cell? ⟨wr.heap.size, 1, none⟩ = some (.int .u8 HI) := by rw [← hwa]; simp
            rw [hwa] at HBA ⊢
            clear hwa ha0 ha1 hc0 c0
            go_cut [185] from 143 to 185 (fun c wx => c = .bool (decide (m < 4 ∨ x1 < LO ∨ HI < x1 ∨ x2 < 128 ∨ 191 < x2 ∨ x3 < 128 ∨ 191 < x3)) ∧ Hid (Below w.heap.size w wx))
            case first =>
              by_cases q0 : m < 4
              · have q0z : (m : Int) < 4 := by omega
                go_quiet (fail)
                go_wp2
                go_meet
                exact ⟨congrArg Value.bool (decide_eq_true (p := m < 4 ∨ x1 < LO ∨ HI < x1 ∨ x2 < 128 ∨ 191 < x2 ∨ x3 < 128 ∨ 191 < x3) (by omega)).symm, below_drewN' HBA.out _⟩
              · have q0z : ¬ ((m : Int) < 4) := by omega
                have cc1 : wa.cell? ⟨b, o + 1, none⟩ = some (.int .u8 x1) := by rw [HCA.out, HCELL.out 1 (by omega), HX1.out]
                have hz1 : (1 : Int) < (m : Int) := by omega
                have cc2 : wa.cell? ⟨b, o + 2, none⟩ = some (.int .u8 x2) := by rw [HCA.out, HCELL.out 2 (by omega), HX2.out]
                have hz2 : (2 : Int) < (m : Int) := by omega
                have cc3 : wa.cell? ⟨b, o + 3, none⟩ = some (.int .u8 x3) := by rw [HCA.out, HCELL.out 3 (by omega), HX3.out]
                have hz3 : (3 : Int) < (m : Int) := by omega
                by_cases q1 : x1 < LO
                · have q1z : (x1 : Int) < (LO : Int) := by omega
                  go_quiet (fail)
                  go_wp2
                  go_meet
                  exact ⟨congrArg Value.bool (decide_eq_true (p := m < 4 ∨ x1 < LO ∨ HI < x1 ∨ x2 < 128 ∨ 191 < x2 ∨ x3 < 128 ∨ 191 < x3) (by omega)).symm, below_drewN' HBA.out _⟩
                · have q1z : ¬ ((x1 : Int) < (LO : Int)) := by omega
                  by_cases q2 : HI < x1
                  · have q2z : (HI : Int) < (x1 : Int) := by omega
                    go_quiet (fail)
                    go_wp2
                    go_meet
                    exact ⟨congrArg Value.bool (decide_eq_true (p := m < 4 ∨ x1 < LO ∨ HI < x1 ∨ x2 < 128 ∨ 191 < x2 ∨ x3 < 128 ∨ 191 < x3) (by omega)).symm, below_drewN' HBA.out _⟩
                  · have q2z : ¬ ((HI : Int) < (x1 : Int)) := by omega
                    by_cases q3 : x2 < 128
                    · have q3z : (x2 : Int) < 128 := by omega
                      go_quiet (fail)
                      go_wp2
                      go_meet
                      exact ⟨congrArg Value.bool (decide_eq_true (p := m < 4 ∨ x1 < LO ∨ HI < x1 ∨ x2 < 128 ∨ 191 < x2 ∨ x3 < 128 ∨ 191 < x3) (by omega)).symm, below_drewN' HBA.out _⟩
                    · have q3z : ¬ ((x2 : Int) < 128) := by omega
                      by_cases q4 : 191 < x2
                      · have q4z : (191 : Int) < (x2 : Int) := by omega
                        go_quiet (fail)
                        go_wp2
                        go_meet
                        exact ⟨congrArg Value.bool (decide_eq_true (p := m < 4 ∨ x1 < LO ∨ HI < x1 ∨ x2 < 128 ∨ 191 < x2 ∨ x3 < 128 ∨ 191 < x3) (by omega)).symm, below_drewN' HBA.out _⟩
                      · have q4z : ¬ ((191 : Int) < (x2 : Int)) := by omega
                        by_cases q5 : x3 < 128
                        · have q5z : (x3 : Int) < 128 := by omega
                          go_quiet (fail)
                          go_wp2
                          go_meet
                          exact ⟨congrArg Value.bool (decide_eq_true (p := m < 4 ∨ x1 < LO ∨ HI < x1 ∨ x2 < 128 ∨ 191 < x2 ∨ x3 < 128 ∨ 191 < x3) (by omega)).symm, below_drewN' HBA.out _⟩
                        · have q5z : ¬ ((x3 : Int) < 128) := by omega
                          by_cases q6 : 191 < x3
                          · have q6z : (191 : Int) < (x3 : Int) := by omega
                            go_quiet (fail)
                            go_wp2
                            go_meet
                            exact ⟨congrArg Value.bool (decide_eq_true (p := m < 4 ∨ x1 < LO ∨ HI < x1 ∨ x2 < 128 ∨ 191 < x2 ∨ x3 < 128 ∨ 191 < x3) (by omega)).symm, below_drewN' HBA.out _⟩
                          · have q6z : ¬ ((191 : Int) < (x3 : Int)) := by omega
                            go_quiet (fail)
                            go_wp2
                            go_meet
                            exact ⟨congrArg Value.bool (decide_eq_false (p := m < 4 ∨ x1 < LO ∨ HI < x1 ∨ x2 < 128 ∨ 191 < x2 ∨ x3 < 128 ∨ 191 < x3) (by omega)).symm, below_drewN' HBA.out _⟩
            case rest =>
              obtain ⟨rfl, HBC⟩ := hcut
              by_cases hb : m < 4 ∨ x1 < LO ∨ HI < x1 ∨ x2 < 128 ∨ 191 < x2 ∨ x3 < 128 ∨ 191 < x3
              · have hbd : decide (m < 4 ∨ x1 < LO ∨ HI < x1 ∨ x2 < 128 ∨ 191 < x2 ∨ x3 < 128 ∨ 191 < x3) = true := decide_eq_true hb
                have hans : ANS = false := by rw [HLEAD.out, if_pos hb]
                go_wp2
                all_goals (go_ret; exact ⟨by first | rfl | rw [hans], HBC.out⟩)
              · have hbd : decide (m < 4 ∨ x1 < LO ∨ HI < x1 ∨ x2 < 128 ∨ 191 < x2 ∨ x3 < 128 ∨ 191 < x3) = false := decide_eq_false hb
                have hans : vd (t.drop 4) = ANS := by rw [HLEAD.out, if_neg hb]
                obtain ⟨mk, hmk⟩ : ∃ mk, mk + 4 = m := ⟨m - 4, by omega⟩
                obtain ⟨Ak, ck, hEk, hmck, hrk, hlk⟩ := cutK w _ t m c 4 mk 4 rfl HR.out.1 HR.out.2.1 hmc hmk
                have HRk := Lib.hid (And.intro hrk (And.intro hlk hans))
                clear hrk hlk hans
                go_wp2
                go_roundg g'
                case measure => omega
                case rel => exact ⟨HBC.out, Ak, _, mk, ck, rfl, hmck, by omega, HRk.out⟩
        have e2b : (((X' : Int) % 8) == 2) = false := by simp; omega
        have e3b : (((X' : Int) % 8) == 3) = false := by simp; omega
        have e4b : (((X' : Int) % 8) == 4) = false := by simp; omega
        simp only [Lib.checkN, s2, s3, s4, if_false] at hlead
        go_wp2
        all_goals (go_ret; exact ⟨by first | rfl | rw [hlead], HBW.out.alloc HBW.out.size _⟩)
    · have h0z : ¬ ((0 : Int) < (m : Int)) := by omega
      obtain rfl : t = [] := List.eq_nil_of_length_eq_zero (by have := HR.out.2.1; omega)
      have hv := HR.out.2.2
      rw [vd_nil] at hv
      subst hv
      go_wp2
      go_ret
      exact ⟨rfl, HBW.out⟩
end Go.Proofs.YtadgiekiiicmfaaGreatDoor
