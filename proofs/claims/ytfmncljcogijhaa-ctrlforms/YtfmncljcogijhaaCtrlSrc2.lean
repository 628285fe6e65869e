/- Package ctrl: Blocks and Depth. -/
import Derived.Test.YtfmncljcogijhaaCtrlSrc
import Derived.Handy
namespace Go.Proofs.Ytfmncljcogijhaa
open Go.RowKit
set_option maxRecDepth 100000
set_option linter.unusedVariables false

def opsOf (is : List IV) : List Int := is.map fun i => i.x.op
theorem opsOf_len (is : List IV) : (opsOf is).length = is.length := by simp [opsOf]
def MeetPost (g mb : Nat) (lv : Value) (ops : List Int) (z : Nat) (s : BS) (w : World) (e : Ending) (w' : World) : Prop :=
  e = .returned (.bool (meetB ops z (ops.getD z 0) s).isSome) ∧ BdAt w' g mb lv ((meetB ops z (ops.getD z 0) s).getD s) ∧ Below mb w w'
set_option maxHeartbeats 1000000 in
theorem kmeet_any (g mb : Nat) (A : Option Addr) (n c : Nat) (is : List IV) (s : BS) (z : Nat) (w : World) (h : BdAt w g mb (.slice A n c) s) (hl : RdN (· < mb) w (.slice A n c) is) (hz : z < is.length) (hn : is.length ≤ 5000) (hi : InvB (opsOf is) z s) :
    Calls Try.prog 21 #[.pointer (some ⟨g, 0, none⟩), .int .i64 z] w (MeetPost g mb (.slice A n c) (opsOf is) z s w) := by
  have hlo : s.o.length ≤ 5000 := by have := hi.d0; have := hi.d1; omega
  have hln : s.n ≤ 5000 := by have := hi.n; omega
  obtain ⟨b2, o2, rfl, cop, hnn⟩ := op_at hl (z := (z : Int)) (by omega) (by omega)
  rw [Int.toNat_natCast] at cop
  have hB := h
  obtain ⟨⟨ov, ho, hov⟩, -⟩ := h
  obtain ⟨c0, c1, c2, c3, c4, f1, f2, f3, f4⟩ := own_body ho
  have HH := Lib.hid (And.intro hB (And.intro hl (And.intro hi (And.intro hn (And.intro hlo (And.intro hln (And.intro hz hnn)))))))
  clear hB ho hov hl hi hlo hln c1 c2 c3 c4 f1 f2 f3 f4
  rw [← hnn] at hz
  have HM : Hid (∀ r, meetB (opsOf is) z ((opsOf is).getD z 0) s = r → ∀ w', BdAt w' g mb (.slice (some ⟨b2, o2, none⟩) n c) (r.getD s) → Below mb w w' → MeetPost g mb (.slice (some ⟨b2, o2, none⟩) n c) (opsOf is) z s w (.returned (.bool r.isSome)) w') := fun r hr w' h1 h2 => by subst hr; exact ⟨rfl, h1, h2⟩
  change w.cell? ⟨b2, o2 + z * 6, none⟩ = some (.int .i64 ((opsOf is).getD z 0)) at cop
  generalize hop : (opsOf is).getD z 0 = op at *
  clear hop hnn hn
  by_cases h234 : op = 2 ∨ op = 3 ∨ op = 4
  · have HR := Lib.hid (HM.out (some (begB z s)) (by unfold meetB; rw [if_pos h234]))
    have C := Lib.hid (kbegin_any g mb _ s z w HH.out.1 (by have := HH.out; omega) (by have := HH.out; omega) (by have := HH.out; omega))
    clear HM
    rcases h234 with rfl | rfl | rfl
    all_goals
      go_enter Try.func21, Try.ntmps21
      go_wp2_with fail
      refine C.out.mono ?_
      rintro e w2 ⟨r, rfl, p1, p2⟩
      have HP := Lib.hid (HR.out w2 p1 p2)
      clear p1 p2
      go_wp2
      go_ret
      exact HP.out
  have e2 : (op == 2) = false := by simp; omega
  have e3 : (op == 3) = false := by simp; omega
  have e4 : (op == 4) = false := by simp; omega
  by_cases h5 : op = 5
  · subst h5
    have C : Hid (Calls Try.prog 33 #[.pointer (some ⟨g, 0, none⟩), .int .i64 z] w fun e w' => ∃ r, e = .returned (.bool r) ∧ MeetPost g mb (.slice (some ⟨b2, o2, none⟩) n c) (opsOf is) z s w (.returned (.bool r)) w') := by
      obtain ⟨hB, hl, hi, hn, hlo, hln, hz2, hnn⟩ := HH.out
      unfold Hid
      rcases last_of s.o with he | ⟨p, k, he⟩
      · refine (kpart_none g mb _ s z w hB he).mono ?_
        rintro e w2 ⟨rfl, p1, p2⟩
        exact ⟨_, rfl, HM.out none (by unfold meetB; simp [he]) w2 p1 p2⟩
      · obtain ⟨k0, k1, -⟩ := hi.o k (by rw [he]; simp)
        by_cases hbad : ¬ (is.map fun i => i.x.op).getD k.toNat 0 = 4 ∨ ¬ elseE s.f k = -1
        · refine (kpart_bad g mb _ n c is s z p k w hB he hl k0 (by omega) (by omega) hbad).mono ?_
          rintro e w2 ⟨rfl, p1, p2⟩
          refine ⟨_, rfl, HM.out none ?_ w2 p1 p2⟩
          unfold meetB
          rw [if_neg (by omega), if_pos rfl, he]
          simp only [List.getLast?_append, List.getLast?_singleton, Option.some_or]
          exact if_pos hbad
        · have hg : (is.map fun i => i.x.op).getD k.toNat 0 = 4 ∧ elseE s.f k = -1 := by
            refine ⟨Classical.byContradiction fun h => hbad (.inl h), Classical.byContradiction fun h => hbad (.inr h)⟩
          refine (kpart_ok g mb _ n c is s z p k w hB he hl k0 (by omega) (by omega) hg.1 hg.2 (by omega) (by omega)).mono ?_
          rintro e w2 ⟨rfl, p1, p2⟩
          refine ⟨_, rfl, HM.out (some _) ?_ w2 p1 p2⟩
          unfold meetB
          rw [if_neg (by omega), if_pos rfl]
          have hgl : s.o.getLast? = some k := by rw [he]; simp
          rw [hgl]
          exact if_neg hbad
    clear HM
    have e5 : ((5 : Int) == 5) = true := rfl
    go_enter Try.func21, Try.ntmps21
    go_wp2_with fail
    refine C.out.mono ?_
    rintro e w2 ⟨r, rfl, p1⟩
    have HP := Lib.hid p1
    clear p1
    go_wp2
    go_ret
    exact HP.out
  have e5 : (op == 5) = false := by simp; omega
  by_cases h11 : op = 11
  · subst h11
    have C : Hid (Calls Try.prog 34 #[.pointer (some ⟨g, 0, none⟩), .int .i64 z] w fun e w' => ∃ r, e = .returned r ∧ MeetPost g mb (.slice (some ⟨b2, o2, none⟩) n c) (opsOf is) z s w (.returned (.bool true)) w') := by
      obtain ⟨hB, hl, hi, hn, hlo, hln, hz2, hnn⟩ := HH.out
      unfold Hid
      rcases last_of s.o with he | ⟨p, k, he⟩
      · refine (kend_none g mb _ s z w hB he).mono ?_
        rintro e w2 ⟨r, rfl, p1, p2⟩
        refine ⟨_, rfl, HM.out (some ⟨s.o, s.f, s.n, s.d, true⟩) ?_ w2 p1 p2⟩
        unfold meetB
        rw [if_neg (by omega), if_neg (by omega), if_pos rfl]
        have hgl : s.o.getLast? = none := by rw [he]; rfl
        rw [hgl]
      · obtain ⟨k0, k1, -⟩ := hi.o k (by rw [he]; simp)
        refine (kend_some g mb _ s z p k w hB he k0 (by omega) (by omega) (by omega)).mono ?_
        rintro e w2 ⟨r, rfl, p1, p2⟩
        refine ⟨_, rfl, HM.out (some _) ?_ w2 p1 p2⟩
        unfold meetB
        rw [if_neg (by omega), if_neg (by omega), if_pos rfl]
        have hgl : s.o.getLast? = some k := by rw [he]; simp
        have hdl : s.o.dropLast = p := by rw [he]; simp
        rw [hgl, hdl]
    clear HM
    go_enter Try.func21, Try.ntmps21
    go_wp2_with fail
    refine C.out.mono ?_
    rintro e w2 ⟨r, rfl, p1⟩
    have HP := Lib.hid p1
    clear p1
    go_wp2
    go_ret
    exact HP.out
  have e11 : (op == 11) = false := by simp; omega
  have HR := Lib.hid (HM.out (some s) (by unfold meetB; rw [if_neg h234, if_neg h5, if_neg h11]) w HH.out.1 (Below.refl _ _))
  clear HM h5 h11 h234
  go_enter Try.func21, Try.ntmps21
  go_wp2
  go_ret
  exact HR.out

/-- What match gives. -/
def MatchPost (B : Nat) (A : Option Addr) (n c : Nat) (r : Option BS) (w : World) (e : Ending) (w' : World) : Prop :=
  ∃ L : Array Value, e = .returned (.tuple #[.agg L, .bool r.isSome]) ∧ Below B w w' ∧ match r with
    | none => L = #[.slice none 0 0, .slice none 0 0, .map none, .int .i64 0, .bool false]
    | some s => ∃ (Ao : Option Addr) (no co mb : Nat), L = #[.slice A n c, .slice Ao no co, .map (some mb), .int .i64 s.d, .bool true] ∧ B ≤ mb ∧ MapAt w' mb .i64 (fw 0 s.f) s.n
def put5 (w : World) (g : Nat) (a : Array Value) : World := ((((w.setCell ⟨g, 0, none⟩ (a.getD 0 undef)).setCell ⟨g, 1, none⟩ (a.getD 1 undef)).setCell ⟨g, 2, none⟩ (a.getD 2 undef)).setCell ⟨g, 3, none⟩ (a.getD 3 undef)).setCell ⟨g, 4, none⟩ (a.getD 4 undef)
theorem chg5 (w : World) (g : Nat) (a : Array Value) : Chg (fun k => k = g) w (put5 w g a) :=
  ((((chgSet w g 0 _).trans (chgSet _ g 1 _) fun _ _ e => e).trans (chgSet _ g 2 _) fun _ _ e => e).trans (chgSet _ g 3 _) fun _ _ e => e).trans (chgSet _ g 4 _) fun _ _ e => e
theorem own_put5 {w : World} {g : Nat} {t : TypeId} {b0 b1 b2 b3 b4 : Value} (h : Own w g t [b0, b1, b2, b3, b4]) (a0 a1 a2 a3 a4 : Value) : Own (put5 w g #[a0, a1, a2, a3, a4]) g t [a0, a1, a2, a3, a4] :=
  ((((h.set 0 a0).set 1 a1).set 2 a2).set 3 a3).set 4 a4
theorem own_cells5f {w : World} {g : Nat} {t : TypeId} {a b c d e : Value} (h : Own w g t [a, b, c, d, e]) : w.frozen? ⟨g, 0, none⟩ = false ∧ w.frozen? ⟨g, 1, none⟩ = false ∧ w.frozen? ⟨g, 2, none⟩ = false ∧ w.frozen? ⟨g, 3, none⟩ = false ∧ w.frozen? ⟨g, 4, none⟩ = false ∧ w.cell? ⟨g, 0, none⟩ = some a ∧ w.cell? ⟨g, 1, none⟩ = some b ∧ w.cell? ⟨g, 2, none⟩ = some c ∧ w.cell? ⟨g, 3, none⟩ = some d ∧ w.cell? ⟨g, 4, none⟩ = some e := ⟨h.frozen 0, h.frozen 1, h.frozen 2, h.frozen 3, h.frozen 4, h.cell 0, h.cell 1, h.cell 2, h.cell 3, h.cell 4⟩
set_option maxHeartbeats 2000000 in
theorem kmatch_any (A : Option Addr) (n c : Nat) (is : List IV) (w : World) (hl : RdN (· < w.heap.size) w (.slice A n c) is) (hnn : n = is.length) (hn : n ≤ 5000) :
    Calls Try.prog 16 #[.slice A n c] w (MatchPost w.heap.size A n c (resB (opsOf is)) w) := by
  have HL := Lib.hid (And.intro hl hnn)
  have hmk := fun W => run_makeMap (P := Try.prog) 31 W
  clear hl hnn
  go_enter Try.func16, Try.ntmps16
  go_wp2
  clear hmk
  go_loopw [11] (fun i wr => ∃ (k : Nat) (s : BS), k ≤ n ∧ i = .int .i64 k ∧ Hid (stB (opsOf is) k = some s ∧ BdAt wr (w.heap.size + 1 + 1) (w.heap.size + 1) (.slice A n c) s ∧ Below w.heap.size w wr ∧ Own wr w.heap.size 59 [.slice none 0 0, .slice none 0 0, .map none, .int .i64 0, .bool false])) (fun i _ => n - (intOf i).toNat)
  case atStart =>
    refine ⟨0, bs0, Nat.zero_le _, rfl, rfl, ⟨⟨_, ?_, OwnI.nil _ _⟩, ?_, by omega, by simp [bs0], by simp [bs0], by simp [bs0]⟩, ?_, ?_⟩
    · have this := Own.new ((w.alloc (.cells #[.slice none 0 0, .slice none 0 0, .map none, .int .i64 0, .bool false] 59)).alloc (.map #[] 0)) 59 [.slice A n c, .slice none 0 0, .map (some (w.heap.size + 1)), .int .i64 0, .bool false]
      simp at this
      exact this
    · have := MapAt.made (w.alloc (.cells #[.slice none 0 0, .slice none 0 0, .map none, .int .i64 0, .bool false] 59)) .i64
      have h2 := this.later (w' := _) ((Below.refl _ _).alloc (Nat.le_refl _) (.cells #[.slice A n c, .slice none 0 0, .map (some (w.heap.size + 1)), .int .i64 0, .bool false] 59))
      simp at h2
      exact h2
    · exact (((Below.refl _ _).alloc (Nat.le_refl _) _).alloc (by simp) _).alloc (by simp; omega) _
    · have h1 := Own.new w 59 [.slice none 0 0, .slice none 0 0, .map none, .int .i64 0, .bool false]
      exact (h1.chg (Chg.alloc (S := fun _ => False) _ _) id).chg (Chg.alloc (S := fun _ => False) _ _) id
  case round =>
    obtain ⟨k, s, hk, rfl, HX⟩ := hrel
    obtain ⟨g0, g1, g2, g3, g4, q0, q1, q2, q3, q4⟩ := own_cells5f HX.out.2.2.2
    obtain ⟨ov, ho, hov⟩ := HX.out.2.1.1
    obtain ⟨Ao, ko, rfl, -, -, -⟩ := hov.rdI
    have c0 := own_body ho
    obtain ⟨c0, c1, c2, c3, c4, -⟩ := c0
    have hend : ∀ W, Chg (fun k => k = w.heap.size) wr W → Below w.heap.size w W := fun W hc => HX.out.2.2.1.trans (below_chg hc (by have := HX.out.2.2.1.size; omega) fun k e => by omega)
    have HE := Lib.hid hend
    clear hend ho hov
    have hnone : stB (opsOf is) (k + 1) = none → k < n → resB (opsOf is) = none := fun h1 h2 => resB_none h1 (by rw [opsOf_len, ← HL.out.2]; omega)
    have HN := Lib.hid hnone
    clear hnone
    by_cases hlt : k < n
    · have hlt2 : (k : Int) < n := by omega
      cases hov : s.over with
      | true =>
        have HR := Lib.hid (HN.out (stB_over HX.out.1 hov) hlt)
        rw [hov] at c4
        clear hov
        generalize s.o.length = q at *
        generalize s.d = d at *
        go_wp2
        have hW := own_put5 HX.out.2.2.2 (.slice none 0 0) (.slice none 0 0) (.map none) (.int .i64 0) (.bool false)
        have hC := chg5 wr w.heap.size #[.slice none 0 0, .slice none 0 0, .map none, .int .i64 0, .bool false]
        show bodyPost _ _ _ _ _ (put5 wr w.heap.size #[.slice none 0 0, .slice none 0 0, .map none, .int .i64 0, .bool false])
        generalize put5 wr w.heap.size #[.slice none 0 0, .slice none 0 0, .map none, .int .i64 0, .bool false] = W at *
        clear g0 g1 g2 g3 g4 q0 q1 q2 q3 q4 c0 c1 c2 c3 c4
        obtain ⟨-, -, -, -, -, k0, k1, k2, k3, k4⟩ := own_cells5f hW
        refine bodyPost_ret (by simp [results, Try.results16, go_sem, k0, k1, k2, k3, k4]; try rfl) rfl ?_
        rw [HR.out]
        exact ⟨_, rfl, HE.out W hC, rfl⟩
      | false =>
        have hinv := stB_inv _ _ _ HX.out.1
        have hll : RdN (· < w.heap.size + 1) wr (.slice A n c) is := (HL.out.1.chg (S := fun k => w.heap.size ≤ k) ⟨HX.out.2.2.1.os, HX.out.2.2.1.tape, HX.out.2.2.1.output, HX.out.2.2.1.size, fun k hk hn => HX.out.2.2.1.block k (by omega)⟩ (fun k hk hx => by omega)).mono fun k _ hx => by omega
        have C := Lib.hid (kmeet_any (w.heap.size + 1 + 1) (w.heap.size + 1) A n c is s k wr HX.out.2.1 hll (by rw [← HL.out.2]; exact hlt) (by rw [← HL.out.2]; exact hn) hinv)
        rw [hov] at c4
        have HS := Lib.hid (stB_step HX.out.1 hov)
        clear hinv hll hov
        generalize s.o.length = q at *
        generalize s.d = d at *
        go_wp2_with fail
        refine C.out.mono ?_
        rintro e w2 ⟨rfl, p1, p2⟩
        have hO2 : Own w2 w.heap.size 59 [.slice none 0 0, .slice none 0 0, .map none, .int .i64 0, .bool false] := HX.out.2.2.2.chg (S := fun k => w.heap.size + 1 ≤ k) ⟨p2.os, p2.tape, p2.output, p2.size, fun k hk hn => p2.block k (by omega)⟩ (by omega)
        have hb2 : Below w.heap.size w w2 := HX.out.2.2.1.trans (p2.mono (by omega))
        have H2 := Lib.hid (And.intro p1 (And.intro hb2 hO2))
        have HE := Lib.hid (fun W (hc : Chg (fun k => k = w.heap.size) w2 W) => hb2.trans (below_chg hc (B := w.heap.size) hb2.size fun k e => by omega))
        clear C c0 c1 c2 c3 c4 g0 g1 g2 g3 g4 q0 q1 q2 q3 q4
        obtain ⟨g0, g1, g2, g3, g4, q0, q1, q2, q3, q4⟩ := own_cells5f hO2
        clear p1 p2 hb2 hO2
        have HS2 := Lib.hid HS.out
        generalize hm : meetB (opsOf is) (k : Int) ((opsOf is).getD k 0) s = r at *
        cases r with
        | none =>
          have HR := Lib.hid (HN.out HS.out hlt)
          simp only [Option.isSome_none]
          clear hm HN
          go_wp2
          have hW := own_put5 H2.out.2.2 (.slice none 0 0) (.slice none 0 0) (.map none) (.int .i64 0) (.bool false)
          have hC := chg5 w2 w.heap.size #[.slice none 0 0, .slice none 0 0, .map none, .int .i64 0, .bool false]
          show bodyPost _ _ _ _ _ (put5 w2 w.heap.size #[.slice none 0 0, .slice none 0 0, .map none, .int .i64 0, .bool false])
          generalize put5 w2 w.heap.size #[.slice none 0 0, .slice none 0 0, .map none, .int .i64 0, .bool false] = W at *
          clear g0 g1 g2 g3 g4 q0 q1 q2 q3 q4
          obtain ⟨-, -, -, -, -, k0, k1, k2, k3, k4⟩ := own_cells5f hW
          refine bodyPost_ret (by simp [results, Try.results16, go_sem, k0, k1, k2, k3, k4]; try rfl) rfl ?_
          rw [HR.out]
          exact ⟨_, rfl, HE.out W hC, rfl⟩
        | some s' =>
          have HS3 := Lib.hid HS.out
          simp only [Option.isSome_some]
          clear hm HN
          go_wp2
          refine ⟨⟨k + 1, s', by omega, by go_num, HS3.out, H2.out⟩, ?_⟩
          simp [intOf]; omega
    · obtain rfl : k = n := by omega
      have hR : resB (opsOf is) = if s.over then some s else none := by
        unfold resB; rw [opsOf_len, ← HL.out.2, HX.out.1]
      have HR0 := Lib.hid hR
      clear hR
      obtain ⟨h1, h2, h3⟩ := HX.out.2
      have hm1 := h1.2.1
      have hmgt := h1.2.2.1
      cases hov : s.over with
      | false =>
        have HR : Hid (resB (opsOf is) = none) := HR0.out.trans (by rw [hov]; rfl)
        rw [hov] at c4
        clear hov HR0 h1 h2 h3 hm1 hmgt
        generalize s.o.length = q at *
        generalize s.d = d at *
        go_wp2
        have hW := own_put5 HX.out.2.2.2 (.slice none 0 0) (.slice none 0 0) (.map none) (.int .i64 0) (.bool false)
        have hC := chg5 wr w.heap.size #[.slice none 0 0, .slice none 0 0, .map none, .int .i64 0, .bool false]
        show bodyPost _ _ _ _ _ (put5 wr w.heap.size #[.slice none 0 0, .slice none 0 0, .map none, .int .i64 0, .bool false])
        generalize put5 wr w.heap.size #[.slice none 0 0, .slice none 0 0, .map none, .int .i64 0, .bool false] = W at *
        clear g0 g1 g2 g3 g4 q0 q1 q2 q3 q4 c0 c1 c2 c3 c4
        obtain ⟨-, -, -, -, -, k0, k1, k2, k3, k4⟩ := own_cells5f hW
        refine bodyPost_ret (by simp [results, Try.results16, go_sem, k0, k1, k2, k3, k4]; try rfl) rfl ?_
        rw [HR.out]
        exact ⟨_, rfl, HE.out W hC, rfl⟩
      | true =>
        have HR : Hid (resB (opsOf is) = some s) := HR0.out.trans (by rw [hov]; rfl)
        rw [hov] at c4
        have HM := Lib.hid hm1
        clear hov HR0 h1 h2 h3 hm1 hmgt
        generalize s.o.length = q at *
        generalize hd : s.d = d at *
        have HD := Lib.hid hd
        clear hd
        go_wp2
        have hW := own_put5 HX.out.2.2.2 (.slice A k c) (.slice Ao q ko) (.map (some (w.heap.size + 1))) (.int .i64 d) (.bool true)
        have hC := chg5 wr w.heap.size #[.slice A k c, .slice Ao q ko, .map (some (w.heap.size + 1)), .int .i64 d, .bool true]
        show bodyPost _ _ _ _ _ (put5 wr w.heap.size #[.slice A k c, .slice Ao q ko, .map (some (w.heap.size + 1)), .int .i64 d, .bool true])
        generalize put5 wr w.heap.size #[.slice A k c, .slice Ao q ko, .map (some (w.heap.size + 1)), .int .i64 d, .bool true] = W at *
        clear g0 g1 g2 g3 g4 q0 q1 q2 q3 q4 c0 c1 c2 c3 c4
        obtain ⟨-, -, -, -, -, k0, k1, k2, k3, k4⟩ := own_cells5f hW
        refine bodyPost_ret (by simp [results, Try.results16, go_sem, k0, k1, k2, k3, k4]; try rfl) rfl ?_
        rw [HR.out]
        exact ⟨_, rfl, HE.out W hC, Ao, q, ko, w.heap.size + 1, by rw [HD.out], by omega, HM.out.chg hC (by omega)⟩

/-- A map of blocks that was handed back. -/
def BlkV (w : World) (B : Nat) (v : Value) (r : Option BS) : Prop := match r with
  | none => v = .map none
  | some s => ∃ mb, v = .map (some mb) ∧ B ≤ mb ∧ MapAt w mb .i64 (fw 0 s.f) s.n
def BlkPost (r : Option BS) (w : World) (e : Ending) (w' : World) : Prop := ∃ v, e = .returned (.tuple #[v, .bool r.isSome]) ∧ BlkV w' w.heap.size v r ∧ Below w.heap.size w w'
def depB (r : Option BS) : Nat := match r with
  | none => 0
  | some s => s.d
theorem BlkV.later {w w' : World} {B : Nat} {v : Value} {r : Option BS} (h : BlkV w B v r) (hb : Below w.heap.size w w') : BlkV w' B v r := by
  cases r with
  | none => exact h
  | some s => obtain ⟨mb, h1, h2, h3⟩ := h; exact ⟨mb, h1, h2, h3.later hb⟩
/-- A slice as it comes. -/
def ViewB (A : Option Addr) (n c : Nat) (r : Option BS) (L : Array Value) : Prop := match r with
  | none => L = #[.slice none 0 0, .slice none 0 0, .map none, .int .i64 0, .bool false]
  | some s => ∃ (Ao : Option Addr) (no co mb : Nat), L = #[.slice A n c, .slice Ao no co, .map (some mb), .int .i64 s.d, .bool true]
theorem MatchPost.open_ {B : Nat} {A : Option Addr} {n c : Nat} {r : Option BS} {w w' : World} {e : Ending} (h : MatchPost B A n c r w e w') :
    ∃ (A1 A2 : Option Addr) (n1 c1 n2 c2 : Nat) (v : Value) (bo : Bool), e = .returned (.tuple #[.agg #[.slice A1 n1 c1, .slice A2 n2 c2, v, .int .i64 (depB r), .bool bo], .bool r.isSome]) ∧ Below B w w' ∧ BlkV w' B v r := by
  obtain ⟨L, h1, h2, h3⟩ := h
  cases r with
  | none => simp only at h3; subst h3; exact ⟨none, none, 0, 0, 0, 0, .map none, false, h1, h2, rfl⟩
  | some s => obtain ⟨Ao, no, co, mb, h3, h4, h5⟩ := h3; subst h3; exact ⟨A, Ao, n, c, no, co, .map (some mb), true, h1, h2, mb, rfl, h4, h5⟩
theorem BlkV.form {w : World} {B : Nat} {v : Value} {r : Option BS} (h : BlkV w B v r) : ∃ m, v = .map m := by
  cases r with
  | none => exact ⟨_, h⟩
  | some s => obtain ⟨mb, h1, _⟩ := h; exact ⟨_, h1⟩
set_option maxHeartbeats 1000000 in
theorem kblocks_any (A : Option Addr) (n c : Nat) (is : List IV) (w : World) (hl : RdN (· < w.heap.size) w (.slice A n c) is) (hnn : n = is.length) (hn : n ≤ 5000) :
    Calls Try.prog 8 #[.slice A n c] w (BlkPost (resB (opsOf is)) w) := by
  have C := Lib.hid (kmatch_any A n c is w hl hnn hn)
  clear hl hnn
  generalize resB (opsOf is) = r at *
  go_enter Try.func8, Try.ntmps8
  go_wp2_with fail
  refine C.out.mono ?_
  rintro e w2 h
  obtain ⟨A1, A2, n1, c1, n2, c2, v, bo, rfl, h2, h3⟩ := h.open_
  obtain ⟨m, rfl⟩ := h3.form
  have H := Lib.hid (And.intro h2 h3)
  clear h h2 h3 C
  generalize depB r = d at *
  go_wp2
  go_returns
  have hb := (Below.refl w2.heap.size w2).alloc (Nat.le_refl _) (.cells #[.slice A1 n1 c1, .slice A2 n2 c2, .map m, .int .i64 d, .bool bo] 59)
  exact ⟨_, rfl, H.out.2.later hb, H.out.1.trans (hb.mono H.out.1.size)⟩
set_option maxHeartbeats 1000000 in
theorem kdepth_any (A : Option Addr) (n c : Nat) (is : List IV) (w : World) (hl : RdN (· < w.heap.size) w (.slice A n c) is) (hnn : n = is.length) (hn : n ≤ 5000) :
    Calls Try.prog 11 #[.slice A n c] w fun e w' => e = .returned (.int .i64 (depB (resB (opsOf is)))) ∧ Below w.heap.size w w' := by
  have C := Lib.hid (kmatch_any A n c is w hl hnn hn)
  clear hl hnn
  generalize resB (opsOf is) = r at *
  go_enter Try.func11, Try.ntmps11
  go_wp2_with fail
  refine C.out.mono ?_
  rintro e w2 h
  obtain ⟨A1, A2, n1, c1, n2, c2, v, bo, rfl, h2, h3⟩ := h.open_
  obtain ⟨m, rfl⟩ := h3.form
  have H := Lib.hid h2
  clear h h2 h3 C
  go_wp2
  go_ret
  exact ⟨rfl, H.out.trans (((Below.refl w2.heap.size w2).alloc (Nat.le_refl _) _).mono H.out.size)⟩
end Go.Proofs.Ytfmncljcogijhaa
