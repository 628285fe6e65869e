/- The walk of FrameAll: out of the contracts. -/
import Derived.Test.YtcblpnojilfidaaBegun2
import Derived.Test.YtcblpnojilfidaaRefAdd
import Derived.Test.YtcblpnojilfidaaSame2
namespace Go.Proofs.Ytcblpnojilfidaa
open Go.RowKit
set_option linter.unusedVariables false

/-- The program's Parts and the document's, side by side. -/
def Both (B : Nat) (w0 w : World) (gp : Nat) (vp : Value) (gr : Nat) (vr : Value) (l : List Int) (bad : Bool) : Prop :=
  PIn B w0 w gp vp l bad ∧ RefAt w gr vr l bad ∧ B ≤ gr ∧ (∀ k, vp.ownBlock = some k → vr.ownBlock ≠ some k) ∧ l.length ≤ 5001
theorem Both.later {B : Nat} {w0 w w' : World} {gp gr : Nat} {vp vr : Value} {l : List Int} {bad : Bool} (h : Both B w0 w gp vp gr vr l bad) (hc : Below w.heap.size w w') : Both B w0 w' gp vp gr vr l bad :=
  ⟨h.1.later hc, h.2.1.later hc, h.2.2⟩

theorem PIn.chg {S : Nat → Prop} {B : Nat} {w0 w w' : World} {g : Nat} {v : Value} {l : List Int} {bad : Bool} (h : PIn B w0 w g v l bad) (hc : Chg S w w') (hg : ¬ S g) (hv : ∀ k, v.ownBlock = some k → ¬ S k) (hB : ∀ i, i < B → ¬ S i) : PIn B w0 w' g v l bad :=
  ⟨h.1.chg hc hg hv, h.2.1, h.2.2.1, h.2.2.2.1.trans (hc.below (Nat.le_trans h.2.2.2.2 h.2.2.2.1.size) hB), h.2.2.2.2⟩
/-- Behind the program's Add the document's Parts is as it was. -/
theorem Both.ref {B : Nat} {w0 w w' : World} {gp gr : Nat} {vp vr : Value} {l : List Int} {bad : Bool} (h : Both B w0 w gp vp gr vr l bad) (hc : Chg (fun k => k = gp ∨ vp.ownBlock = some k) w w') : RefAt w' gr vr l bad :=
  h.2.1.chg hc (fun e => by
    rcases e with e | e
    · exact Own.ne h.2.1.1 h.1.1.1 (by decide) e
    · exact owns_ne h.1.1.2.1 h.2.1.1 (by decide) e) fun k hk e => by
    rcases e with e | e
    · exact owns_ne h.2.1.2.1 h.1.1.1 (by decide) (by rw [hk, e])
    · exact h.2.2.2.1 k e hk
/-- Both Adds done. -/
theorem Both.step {B : Nat} {w0 w w1 w2 : World} {gp gr : Nat} {vp vr vp' vr' : Value} {l l' : List Int} {bad bad' : Bool} (h : Both B w0 w gp vp gr vr l bad) (hp : PIn B w0 w1 gp vp' l' bad') (hc1 : Chg (fun k => k = gp ∨ vp.ownBlock = some k) w w1)
    (hv : ∀ k, vp'.ownBlock = some k → vp.ownBlock = some k ∨ w.heap.size ≤ k) (hr : RefAt w2 gr vr' l' bad') (hc2 : Chg (fun k => k = gr) w1 w2) (hv2 : ∀ k, vr'.ownBlock = some k → vr.ownBlock = some k ∨ w1.heap.size ≤ k) (hl : l'.length ≤ 5001) : Both B w0 w2 gp vp' gr vr' l' bad' := by
  have hr1 := h.ref hc1
  refine ⟨hp.chg hc2 (fun e => Own.ne hp.1.1 hr1.1 (by decide) e) (fun k hk e => owns_ne hp.1.2.1 hr1.1 (by decide) (by rw [hk, e])) (fun i hi e => ?_), hr, h.2.2.1, fun k hk e => ?_, hl⟩
  · have := h.2.2.1; omega
  · have hlt := owns_lt hp.1.2.1 hk
    rcases hv2 k e with e2 | e2
    · rcases hv k hk with e1 | e1
      · exact h.2.2.2.1 k e1 e2
      · have := owns_lt h.2.1.2.1 e2; omega
    · omega
/-- What comes of bytes, bad or not. -/
def nxt (l : List Int) (bad : Bool) (news : List Int) : List (List Int) × List Int × Bool := if bad then ([], l, true) else fr (l ++ news)
def errOf (b : Bool) : Int := if b then 4 else 0
theorem nxt_len (l : List Int) (bad : Bool) (news : List Int) (h : l.length ≤ 5001) : (nxt l bad news).2.1.length ≤ 5001 := by
  unfold nxt
  cases bad
  · exact (fr_restLen _).2
  · exact h

def AddNxt (B : Nat) (w0 : World) (R : List (List Int) × List Int × Bool) (g : Nat) (v : Value) (w : World) (e : Ending) (w' : World) : Prop :=
  ∃ f v', e = .returned (.tuple #[f, .int .i64 (errOf R.2.2)]) ∧ OwnL (fun k => w.heap.size ≤ k ∧ v'.ownBlock ≠ some k) w' f R.1 ∧ PIn B w0 w' g v' R.2.1 R.2.2 ∧ Chg (fun k => k = g ∨ v.ownBlock = some k) w w' ∧ ∀ k, v'.ownBlock = some k → v.ownBlock = some k ∨ w.heap.size ≤ k
theorem add_nxt {X : Nat → Prop} {B : Nat} {w0 : World} (g : Nat) (v : Value) (l news : List Int) (bad : Bool) (A : Option Addr) (m c : Nat) (w : World) (hp : PIn B w0 w g v l bad) (hr : RdX X w A news) (hm : m = news.length) (hlen : l.length + m ≤ 1000000) :
    Calls Try.prog 9 #[.pointer (some ⟨g, 0, none⟩), .slice A m c] w (AddNxt B w0 (nxt l bad news) g v w) := by
  cases bad
  · exact add_in g v l news (l ++ news) _ _ A m c w hp hr hm hlen rfl rfl rfl
  · refine (add_bad g v l A m c w hp.1).mono ?_
    rintro e w' ⟨rfl, rfl⟩
    exact ⟨_, v, rfl, OwnL.nil _ _, hp, Chg.refl _ _, fun k hk => .inl hk⟩
def RefNxt (R : List (List Int) × List Int × Bool) (g : Nat) (v : Value) (w : World) (e : Ending) (w' : World) : Prop :=
  ∃ f v', e = .returned (.tuple #[f, .int .i64 (errOf R.2.2)]) ∧ OwnL (fun k => w.heap.size ≤ k) w' f R.1 ∧ RefAt w' g v' R.2.1 R.2.2 ∧ Chg (fun k => k = g) w w' ∧ ∀ k, v'.ownBlock = some k → v.ownBlock = some k ∨ w.heap.size ≤ k
theorem refAdd_nxt (g : Nat) (v : Value) (l news : List Int) (bad : Bool) (A : Option Addr) (m c : Nat) (w : World) (hp : RefAt w g v l bad) (hr : Rd w w.heap.size A news) (hm : m = news.length) (hlen : l.length + m ≤ 1000000) :
    Calls Try.prog 10 #[.pointer (some ⟨g, 0, none⟩), .slice A m c] w (RefNxt (nxt l bad news) g v w) := by
  cases bad
  · refine (refAdd_any g v l news A m c w hp hr hm hlen).mono ?_
    rintro e w' ⟨f, v', rfl, hf, hp', hc, hv⟩
    exact ⟨f, v', rfl, hf, hp', hc, fun k hk => .inr (hv k hk)⟩
  · refine (refAdd_bad g v l A m c w hp).mono ?_
    rintro e w' ⟨rfl, rfl⟩
    exact ⟨_, v, rfl, OwnL.nil _ _, hp, Chg.refl _ _, fun k hk => .inl hk⟩

set_option maxRecDepth 100000 in
set_option maxHeartbeats 4000000 in
theorem frameAll_core (A : Option Addr) (ls : List (List Int)) (n c : Nat) (w : World) (h : RdL (· < w.heap.size) w (.slice A n c) ls) (hn : n = ls.length) (hl : n ≤ maxLen) :
    Calls Try.prog 3 #[.slice A n c] w fun e w' => e = .returned (.bool true) ∧ Below w.heap.size w w' := by
  have HR := Lib.hid h
  have HN := Lib.hid hn
  clear h hn
  unfold maxLen at hl
  by_cases h20 : 20 < n
  · have g1 : (20 : Int) < (n : Int) := by omega
    go_enter Try.func3, Try.ntmps3
    go_wp2_with fail
    refine (begun2_any w).mono ?_
    rintro e w1 ⟨rfl, hb1⟩
    have HB1 := Lib.hid hb1
    clear hb1
    go_wp2
    go_ret
    exact ⟨rfl, HB1.out⟩
  · have g1 : decide ((20 : Int) < (n : Int)) = false := by simp; omega
    go_enter Try.func3, Try.ntmps3
    go_wp2_with fail
    refine (begun2_any w).mono ?_
    rintro e w1 ⟨rfl, hb1⟩
    have HB1 := Lib.hid hb1
    clear hb1
    go_wp2_with fail
    refine (new_any w1).mono ?_
    intro e w3 h3
    have hsz := h3.2.2.2
    obtain ⟨rfl, hp3⟩ := PIn.new HB1.out (Nat.le_refl _) h3
    generalize w1.heap.size = gp at hp3 hsz ⊢
    have HP := Lib.hid hp3
    clear hp3 h3
    go_wp2
    have hB0 : Both w.heap.size w (w3.alloc (.cells #[.slice none 0 0, .bool false] 29)) gp (.slice none 0 0) w3.heap.size (.slice none 0 0) [] false :=
      ⟨HP.out.alloc _, ⟨Own.new w3 _ [.slice none 0 0, .bool false], OwnB.nil _ _, IsBytes.nil⟩, Nat.le_trans HP.out.2.2.2.2 HP.out.2.2.2.1.size, fun k hk => by simp [Value.ownBlock] at hk, by simp⟩
    have HB0 := Lib.hid hB0
    clear hB0 HP
    generalize w3.heap.size = gr at *
    go_loopw [5] (fun i wr => ∃ (k : Nat) (vp vr : Value) (l : List Int) (bad : Bool), k ≤ n ∧ i = .int .i64 k ∧ Hid (Both w.heap.size w wr gp vp gr vr l bad)) (fun i _ => n - (intOf i).toNat)
    case atStart => exact ⟨0, _, _, [], false, by omega, rfl, HB0.out⟩
    case round =>
      obtain ⟨k, vp, vr, l, bad, hk, rfl, HX⟩ := hrel
      clear HB0
      by_cases hlt : k < n
      · have hRk : RdL (· < w.heap.size) wr (.slice A n c) ls := HR.out.chg (S := fun i => w.heap.size ≤ i) ⟨HX.out.1.2.2.2.1.os, HX.out.1.2.2.2.1.tape, HX.out.1.2.2.2.1.output, HX.out.1.2.2.2.1.size, fun i hi _ => HX.out.1.2.2.2.1.block i hi⟩ (fun i _ hi e => by omega)
        obtain ⟨b, o, P, d, rfl, hbX, hbw, hcell, hpl, hpd, hrp⟩ := hRk.at_ (j := k) (by rw [← HN.out]; exact hlt)
        generalize ls.getD k [] = pc at *
        generalize hm : pc.length = m at *
        have HM := Lib.hid hm
        unfold maxLen at hpd
        have HRp := Lib.hid hrp
        clear hm hrp hRk
        by_cases h60 : 60 < m
        · have h60' : (60 : Int) < (m : Int) := by omega
          go_wp2
          go_ret
          exact ⟨rfl, HX.out.1.2.2.2.1⟩
        · have h60' : ¬ (60 : Int) < (m : Int) := by omega
          have hll := HX.out.2.2.2.2
          have HNL := Lib.hid (nxt_len l bad pc hll)
          go_wp2_with fail
          refine (add_nxt gp vp l pc bad P m d wr HX.out.1 HRp.out HM.out.symm (by omega)).mono ?_
          rintro e w4 ⟨f4, vp4, rfl, hf4, hp4, hc4, hv4⟩
          generalize hR : nxt l bad pc = R at *
          have HRR := Lib.hid hR
          clear hR
          obtain ⟨F, l', bad'⟩ := R
          have hNL : l'.length ≤ 5001 := HNL.out
          have hp4' : PIn w.heap.size w w4 gp vp4 l' bad' := hp4
          have hcell4 : w4.cell? ⟨b, o + k, none⟩ = some (.slice P m d) := by
            rw [← hcell]
            refine World.cell?_of_block (hc4.block b hbw fun e => ?_)
            rcases e with e | e
            · have := HX.out.1.2.1; omega
            · have := HX.out.1.2.2.1 b e; omega
          have hR4 : RdX (fun x => x < w.heap.size) w4 P pc := HRp.out.chg hc4 fun i _ hi e => by
            rcases e with e | e
            · have := HX.out.1.2.1; omega
            · have := HX.out.1.2.2.1 i e; omega
          have H4 := Lib.hid (And.intro hf4 (And.intro hp4' (And.intro hc4 (And.intro hv4 hR4))))
          have HNL' := Lib.hid hNL
          have hgr : gr < wr.heap.size := HX.out.2.1.1.lt
          clear hf4 hp4 hp4' hc4 hv4 hR4 HNL hNL hcell
          simp only
          go_wp2_with fail
          refine (refAdd_nxt gr vr l pc bad P m d w4 (HX.out.ref H4.out.2.2.1) H4.out.2.2.2.2.rd HM.out.symm (by omega)).mono ?_
          rw [HRR.out]
          rintro e w5 ⟨f5, vr5, rfl, hf5, hr5, hc5, hv5⟩
          have HX5 := Lib.hid (HX.out.step H4.out.2.1 H4.out.2.2.1 H4.out.2.2.2.1 hr5 hc5 hv5 HNL'.out)
          have hx4 : RdL (fun k => wr.heap.size ≤ k ∧ vp4.ownBlock ≠ some k) w5 f4 F := (H4.out.1.chg hc5 fun i _ hi e => by have := hi.1; omega).rd
          have hx5 : RdL (fun k => w4.heap.size ≤ k) w5 f5 F := OwnL.rd hf5
          have HS := Lib.hid (And.intro hx4 hx5)
          obtain ⟨hd0, hd1, -, -⟩ := ref_cells HX5.out.2.1.1
          obtain ⟨Ar, cr, er, -, -, -⟩ := HX5.out.2.1.2.1.rdX HX5.out.2.1.2.2
          rw [er] at hd0
          clear er hf5 hr5 hc5 hv5 hx4 hx5 H4
          simp only
          generalize errOf bad' = E at *
          generalize hl5 : l'.length = ll at *
          have HL5 := Lib.hid hl5
          clear hl5
          have q1 : (E != E) = false := by simp
          have q2 : ((ll : Int) != (ll : Int)) = false := by simp
          have CR : Hid (∀ nq, Calls Try.prog 12 #[.pointer (some ⟨gp, 0, none⟩)] (w5.drewN nq) fun e w' => e = .returned (.int .i64 ll) ∧ w5.drewN nq = w') := fun nq => by
            rw [← HL5.out]; exact rest_any gp vp4 l' bad' (w5.drewN nq) HX5.out.1.1
          go_wp2
          go_quiet (first
            | (go_at_call 11; exact Calls.quiet_of (same_any f4 f5 F _ (HS.out.1.drewN _) (HS.out.2.drewN _)))
            | (go_at_call 12; exact quietL (CR.out _))
            | (go_at_call 13; exact quietL (bad_any gp vp4 l' bad' _ HX5.out.1.1)))
          have HX6 := Lib.hid (HX5.out.later (below_drewN' (Below.refl _ _) nq))
          clear HX5 HS CR hd0 hd1 hcell4 HX
          generalize w5.drewN nq = w6 at *
          have hl6 : l'.length ≤ 5001 := HX6.out.2.2.2.2
          by_cases hmid : (k : Int) = (n : Int) / 2
          · have q3 : ((k : Int) == (n : Int) / 2) = true := by simp [hmid]
            clear hmid
            go_wp2_with fail
            refine (copy_any gp vp4 l' bad' w6 HX6.out.1.1 (by omega)).mono ?_
            rintro e w7 ⟨gc, vc, rfl, hpc, hbc, hgc, hvc⟩
            have HBC := Lib.hid hbc
            have HC := Lib.hid (And.intro hpc (And.intro hgc hvc))
            have hs7 := hbc.size
            clear hpc hbc hgc hvc
            go_wp2_with fail
            refine (add_nxt (B := 0) (w0 := w7) gc vc l' [0, 0, 9] bad' _ 3 3 _ ⟨HC.out.1.later ((Below.refl _ _).alloc (Nat.le_refl _) _), Nat.zero_le _, fun _ _ => Nat.zero_le _, (Below.refl _ _).alloc (Nat.zero_le _) _, Nat.zero_le _⟩ (lit_rd w7 [0, 0, 9] (fun z hz => by simp at hz; omega) _ rfl) rfl (by omega)).mono ?_
            rintro e w8 ⟨f8, v8, rfl, -, -, hc8, -⟩
            have hb8 : Below w6.heap.size w7 w8 := ((Below.refl w6.heap.size w7).alloc hs7 _).trans (hc8.below (by simp; omega) fun i hi e => by
              rcases e with e | e
              · have := HC.out.2.1; omega
              · have := HC.out.2.2 i e; omega)
            have HX8 := Lib.hid (HX6.out.later (HBC.out.trans hb8))
            clear hc8 hb8 HX6 HC HBC
            generalize errOf (nxt l' bad' [0, 0, 9]).2.2 = E8
            go_wp2
            exact ⟨⟨k + 1, vp4, vr5, l', bad', by omega, by go_num, HX8.out⟩, by simp [intOf]; omega⟩
          · have q3 : ((k : Int) == (n : Int) / 2) = false := by simpa using hmid
            go_wp2
            exact ⟨⟨k + 1, vp4, vr5, l', bad', by omega, by go_num, HX6.out⟩, by simp [intOf]; omega⟩
      · go_wp2_with fail
        refine (add_none _ 1 1 _).mono ?_
        rintro e w5 ⟨rfl, rfl⟩
        go_wp2_with fail
        refine (rest_none _).mono ?_
        rintro e w5 ⟨rfl, rfl⟩
        go_wp2_with fail
        refine (bad_none _).mono ?_
        rintro e w5 ⟨rfl, rfl⟩
        go_wp2_with fail
        refine (copy_none _).mono ?_
        rintro e w5 ⟨rfl, rfl⟩
        go_wp2
        go_ret
        exact ⟨rfl, (HX.out.1.alloc _).2.2.2.1⟩
end Go.Proofs.Ytcblpnojilfidaa
