/- The document's answer to what an instruction is. -/
import Derived.Test.YtonkcfnegnghcaaOpKind
import Derived.Test.YtonkcfnegnghcaaFrSteps
namespace Go.Proofs.Ytonkcfnegnghcaa
open Go.RowKit
set_option maxRecDepth 100000
set_option linter.unusedVariables false

set_option maxHeartbeats 1000000 in
theorem refWidth_any (x : Int) (w : World) : Calls Try.prog 11 #[.int .i64 x] w fun e w' => e = .returned (.int .i64 (wd x)) ∧ w = w' := by
  go_enter Try.func11, Try.ntmps11
  go_wp2
  all_goals (go_ret; refine ⟨?_, rfl⟩; simp_all [wd])
def fb (x : Int) : Bool := ((((((((((((Cmp.eq.tell x 42 || Cmp.eq.tell x 43) || Cmp.eq.tell x 56) || Cmp.eq.tell x 57) || Cmp.eq.tell x 67) || Cmp.eq.tell x 68) || (decide ((91 : Int) ≤ x) && decide (x ≤ 102))) || (decide ((139 : Int) ≤ x) && decide (x ≤ 166))) || (decide ((168 : Int) ≤ x) && decide (x ≤ 171))) || (decide ((174 : Int) ≤ x) && decide (x ≤ 191))) || (decide ((64512 : Int) ≤ x) && decide (x ≤ 64519))) || Cmp.eq.tell x 253) || (decide ((64768 : Int) ≤ x) && decide (x ≤ 65023)))
def b0 (x : Int) : Bool := (((((((((((((Cmp.eq.tell x 0 || Cmp.eq.tell x 1) || Cmp.eq.tell x 5) || Cmp.eq.tell x 11) || Cmp.eq.tell x 15) || Cmp.eq.tell x 26) || Cmp.eq.tell x 27) || (decide ((69 : Int) ≤ x) && decide (x ≤ 90))) || (decide ((103 : Int) ≤ x) && decide (x ≤ 138))) || Cmp.eq.tell x 167) || Cmp.eq.tell x 172) || Cmp.eq.tell x 173) || (decide ((192 : Int) ≤ x) && decide (x ≤ 196))) || Cmp.eq.tell x 209)
def b1 (x : Int) : Bool := ((((((((((Cmp.eq.tell x 12 || Cmp.eq.tell x 13) || Cmp.eq.tell x 16) || (decide ((32 : Int) ≤ x) && decide (x ≤ 38))) || Cmp.eq.tell x 210) || Cmp.eq.tell x 63) || Cmp.eq.tell x 64) || Cmp.eq.tell x 64521) || Cmp.eq.tell x 64523) || Cmp.eq.tell x 64525) || (decide ((64527 : Int) ≤ x) && decide (x ≤ 64529)))
def b2 (x : Int) : Bool := ((((Cmp.eq.tell x 17 || Cmp.eq.tell x 64520) || Cmp.eq.tell x 64522) || Cmp.eq.tell x 64524) || Cmp.eq.tell x 64526)
def b3 (x : Int) : Bool := Cmp.eq.tell x 65
def b4 (x : Int) : Bool := Cmp.eq.tell x 66
def b7 (x : Int) : Bool := Cmp.eq.tell x 14
def b8 (x : Int) : Bool := (Cmp.eq.tell x 28 || Cmp.eq.tell x 208)
def b5 (x : Int) : Bool := Cmp.gt.tell (wd x) 0
def b6 (x : Int) : Bool := Cmp.ge.tell x 2 && Cmp.le.tell x 4
def b9 (x : Int) : Bool := decide (fl x)
def rk (x : Int) : Int × Int := if b0 x = true then (0, 0) else if b1 x = true then (1, 0) else if b2 x = true then (2, 0) else if b3 x = true then (3, 0) else if b4 x = true then (4, 0) else if b5 x = true then (5, 0) else if b6 x = true then (6, 0) else if b7 x = true then (7, 0) else if b8 x = true then (8, 0) else if b9 x = true then (0, 5) else (0, 2)

theorem fb_low : ∀ n : Fin 256, fb (n.val : Int) = decide (fl (n.val : Int)) := by decide +kernel
theorem fb_high : ∀ n : Fin 512, fb ((n.val : Int) + 64512) = decide (fl ((n.val : Int) + 64512)) := by decide +kernel
theorem rk_low : ∀ n : Fin 256, rk (n.val : Int) = kd (n.val : Int) := by decide +kernel
theorem rk_high : ∀ n : Fin 512, rk ((n.val : Int) + 64512) = kd ((n.val : Int) + 64512) := by decide +kernel
/-- Numbers that are none: below 0, between one byte and those behind 0xfc, above those behind 0xfd. -/
theorem out_kd {x : Int} (h : x < 0 ∨ (256 ≤ x ∧ x < 64512) ∨ 65024 ≤ x) : kd x = (0, 2) ∧ wd x = 0 ∧ ¬ fl x := by
  have h1 : ¬ fl x := by unfold fl; omega
  have h2 : ¬ nu x := by unfold nu; omega
  have h3 : wd x = 0 := by unfold wd; rw [if_neg (by omega), if_neg (by omega), if_neg (by omega), if_neg (by omega)]
  refine ⟨?_, h3, h1⟩
  unfold kd
  rw [if_neg h1, if_neg h2, if_neg (by omega)]
  by_cases h4 : 64512 ≤ x
  · rw [if_pos h4]; unfold kf; rw [if_neg (by omega), if_neg (by omega)]
  · rw [if_neg h4]; unfold kb; rw [if_neg (by omega), if_neg (by omega), if_neg (by omega), if_neg (by omega), if_neg (by omega), if_neg (by omega), if_neg (by omega), if_neg (by omega)]
theorem fb_eq (x : Int) : fb x = decide (fl x) := by
  by_cases h : 0 ≤ x ∧ x < 256
  · have := fb_low ⟨x.toNat, by omega⟩
    rwa [show ((⟨x.toNat, by omega⟩ : Fin 256).val : Int) = x by simp; omega] at this
  by_cases h' : 64512 ≤ x ∧ x < 65024
  · have := fb_high ⟨(x - 64512).toNat, by omega⟩
    rwa [show ((⟨(x - 64512).toNat, by omega⟩ : Fin 512).val : Int) + 64512 = x by simp; omega] at this
  rw [decide_eq_false (out_kd (by omega)).2.2]
  simp [fb, Cmp.tell]
  omega
theorem rk_eq (x : Int) : rk x = kd x := by
  by_cases h : 0 ≤ x ∧ x < 256
  · have := rk_low ⟨x.toNat, by omega⟩
    rwa [show ((⟨x.toNat, by omega⟩ : Fin 256).val : Int) = x by simp; omega] at this
  by_cases h' : 64512 ≤ x ∧ x < 65024
  · have := rk_high ⟨(x - 64512).toNat, by omega⟩
    rwa [show ((⟨(x - 64512).toNat, by omega⟩ : Fin 512).val : Int) + 64512 = x by simp; omega] at this
  obtain ⟨e1, e2, e3⟩ := out_kd (x := x) (by omega)
  rw [e1]
  have c0 : b0 x = false := by simp [b0, Cmp.tell]; omega
  have c1 : b1 x = false := by simp [b1, Cmp.tell]; omega
  have c2 : b2 x = false := by simp [b2, Cmp.tell]; omega
  have c3 : b3 x = false := by simp [b3, Cmp.tell]; omega
  have c4 : b4 x = false := by simp [b4, Cmp.tell]; omega
  have c6 : b6 x = false := by simp [b6, Cmp.tell]; omega
  have c7 : b7 x = false := by simp [b7, Cmp.tell]; omega
  have c8 : b8 x = false := by simp [b8, Cmp.tell]; omega
  have c5 : b5 x = false := by simp [b5, Cmp.tell, e2]
  have c9 : b9 x = false := by simp [b9, e3]
  simp [rk, c0, c1, c2, c3, c4, c5, c6, c7, c8, c9]
set_option maxHeartbeats 1000000 in
theorem refFloats_any (x : Int) (w : World) : Calls Try.prog 18 #[.int .i64 x] w fun e w' => e = .returned (.bool (decide (fl x))) ∧ w = w' := by
  rw [← fb_eq]
  refine calls_fr Try.func18 rfl Try.ntmps18 (by decide) fun a F => ?_
  refine wp_seq ?_
  refine wp_region_lit ?_
  try simp only [List.cons_append, List.nil_append]
  refine fr_one _ _ _ ⟨rfl, rfl, rfl⟩ (by decide) F ?_
  clear F
  intro a F hp
  refine wpList_nil ?_
  change Code.wp _ _ _ _ _
  clear hp
  refine wp_seq ?_
  refine wp_region_lit ?_
  try simp only [List.cons_append, List.nil_append]
  refine fr_cmp _ _ _ _ .eq _ _ ⟨rfl, rfl, rfl⟩ ⟨rfl, rfl, rfl⟩ (by decide) F ?_
  clear F
  intro a F hp
  refine fr_or _ _ _ _ _ _ _ _ _ _ .eq _ _ _ ⟨rfl, rfl, rfl⟩ ⟨rfl, rfl, rfl⟩ ⟨rfl, rfl, rfl⟩ ⟨rfl, rfl, rfl⟩ rfl (by decide) F hp ?_
  clear F hp
  intro a F hp
  refine fr_or _ _ _ _ _ _ _ _ _ _ .eq _ _ _ ⟨rfl, rfl, rfl⟩ ⟨rfl, rfl, rfl⟩ ⟨rfl, rfl, rfl⟩ ⟨rfl, rfl, rfl⟩ rfl (by decide) F hp ?_
  clear F hp
  intro a F hp
  refine fr_or _ _ _ _ _ _ _ _ _ _ .eq _ _ _ ⟨rfl, rfl, rfl⟩ ⟨rfl, rfl, rfl⟩ ⟨rfl, rfl, rfl⟩ ⟨rfl, rfl, rfl⟩ rfl (by decide) F hp ?_
  clear F hp
  intro a F hp
  refine fr_or _ _ _ _ _ _ _ _ _ _ .eq _ _ _ ⟨rfl, rfl, rfl⟩ ⟨rfl, rfl, rfl⟩ ⟨rfl, rfl, rfl⟩ ⟨rfl, rfl, rfl⟩ rfl (by decide) F hp ?_
  clear F hp
  intro a F hp
  refine fr_or _ _ _ _ _ _ _ _ _ _ .eq _ _ _ ⟨rfl, rfl, rfl⟩ ⟨rfl, rfl, rfl⟩ ⟨rfl, rfl, rfl⟩ ⟨rfl, rfl, rfl⟩ rfl (by decide) F hp ?_
  clear F hp
  intro a F hp
  refine fr_rng _ _ _ _ _ _ _ _ _ _ _ _ _ _ _ _ _ _ _ _ _ _ _ _ ⟨rfl, rfl, rfl⟩ ⟨rfl, rfl, rfl⟩ ⟨rfl, rfl, rfl⟩ ⟨rfl, rfl, rfl⟩ ⟨rfl, rfl, rfl⟩ ⟨rfl, rfl, rfl⟩ ⟨rfl, rfl, rfl⟩ ⟨rfl, rfl, rfl⟩ rfl rfl (by decide) F hp ?_
  clear F hp
  intro a F hp
  refine fr_rng _ _ _ _ _ _ _ _ _ _ _ _ _ _ _ _ _ _ _ _ _ _ _ _ ⟨rfl, rfl, rfl⟩ ⟨rfl, rfl, rfl⟩ ⟨rfl, rfl, rfl⟩ ⟨rfl, rfl, rfl⟩ ⟨rfl, rfl, rfl⟩ ⟨rfl, rfl, rfl⟩ ⟨rfl, rfl, rfl⟩ ⟨rfl, rfl, rfl⟩ rfl rfl (by decide) F hp ?_
  clear F hp
  intro a F hp
  refine fr_rng _ _ _ _ _ _ _ _ _ _ _ _ _ _ _ _ _ _ _ _ _ _ _ _ ⟨rfl, rfl, rfl⟩ ⟨rfl, rfl, rfl⟩ ⟨rfl, rfl, rfl⟩ ⟨rfl, rfl, rfl⟩ ⟨rfl, rfl, rfl⟩ ⟨rfl, rfl, rfl⟩ ⟨rfl, rfl, rfl⟩ ⟨rfl, rfl, rfl⟩ rfl rfl (by decide) F hp ?_
  clear F hp
  intro a F hp
  refine fr_rng _ _ _ _ _ _ _ _ _ _ _ _ _ _ _ _ _ _ _ _ _ _ _ _ ⟨rfl, rfl, rfl⟩ ⟨rfl, rfl, rfl⟩ ⟨rfl, rfl, rfl⟩ ⟨rfl, rfl, rfl⟩ ⟨rfl, rfl, rfl⟩ ⟨rfl, rfl, rfl⟩ ⟨rfl, rfl, rfl⟩ ⟨rfl, rfl, rfl⟩ rfl rfl (by decide) F hp ?_
  clear F hp
  intro a F hp
  refine fr_rng _ _ _ _ _ _ _ _ _ _ _ _ _ _ _ _ _ _ _ _ _ _ _ _ ⟨rfl, rfl, rfl⟩ ⟨rfl, rfl, rfl⟩ ⟨rfl, rfl, rfl⟩ ⟨rfl, rfl, rfl⟩ ⟨rfl, rfl, rfl⟩ ⟨rfl, rfl, rfl⟩ ⟨rfl, rfl, rfl⟩ ⟨rfl, rfl, rfl⟩ rfl rfl (by decide) F hp ?_
  clear F hp
  intro a F hp
  refine fr_or _ _ _ _ _ _ _ _ _ _ .eq _ _ _ ⟨rfl, rfl, rfl⟩ ⟨rfl, rfl, rfl⟩ ⟨rfl, rfl, rfl⟩ ⟨rfl, rfl, rfl⟩ rfl (by decide) F hp ?_
  clear F hp
  intro a F hp
  refine fr_rng _ _ _ _ _ _ _ _ _ _ _ _ _ _ _ _ _ _ _ _ _ _ _ _ ⟨rfl, rfl, rfl⟩ ⟨rfl, rfl, rfl⟩ ⟨rfl, rfl, rfl⟩ ⟨rfl, rfl, rfl⟩ ⟨rfl, rfl, rfl⟩ ⟨rfl, rfl, rfl⟩ ⟨rfl, rfl, rfl⟩ ⟨rfl, rfl, rfl⟩ rfl rfl (by decide) F hp ?_
  clear F hp
  intro a F hp
  refine fr_as _ _ _ _ ⟨rfl, rfl, rfl⟩ (by decide) F hp ?_
  clear F hp
  intro a F hp
  refine wpList_nil ?_
  change Code.wp _ _ _ _ _
  refine wp_ret ?_
  change bodyPost _ _ _ .ret _ _
  refine bodyPost_ret (results_tmp rfl _ _ _) F.2.1 ⟨?_, rfl⟩
  rw [show a.tmps.getD 2 undef = .bool (fb x) from hp]
set_option maxHeartbeats 4000000 in
theorem refKind_any (x : Int) (w : World) : Calls Try.prog 9 #[.int .i64 x] w fun e w' => e = .returned (pr (kd x)) ∧ w = w' := by
  rw [← rk_eq]
  refine calls_fr Try.func9 rfl Try.ntmps9 (by decide) fun a F => ?_
  refine wp_seq ?_
  refine wp_region_lit ?_
  try simp only [List.cons_append, List.nil_append]
  refine fr_two _ _ _ _ ⟨rfl, rfl, rfl⟩ ⟨rfl, rfl, rfl⟩ (by decide) F ?_
  clear F
  intro a F e1 e2
  clear e1 e2
  refine wpList_nil ?_
  change Code.wp _ _ _ _ _
  refine wp_seq ?_
  refine wp_block ?_
  refine wp_seq ?_
  refine wp_region_lit ?_
  try simp only [List.cons_append, List.nil_append]
  refine fr_cmp _ _ _ _ .eq _ _ ⟨rfl, rfl, rfl⟩ ⟨rfl, rfl, rfl⟩ (by decide) F ?_
  clear F
  intro a F hp
  refine fr_or _ _ _ _ _ _ _ _ _ _ .eq _ _ _ ⟨rfl, rfl, rfl⟩ ⟨rfl, rfl, rfl⟩ ⟨rfl, rfl, rfl⟩ ⟨rfl, rfl, rfl⟩ rfl (by decide) F hp ?_
  clear F hp
  intro a F hp
  refine fr_or _ _ _ _ _ _ _ _ _ _ .eq _ _ _ ⟨rfl, rfl, rfl⟩ ⟨rfl, rfl, rfl⟩ ⟨rfl, rfl, rfl⟩ ⟨rfl, rfl, rfl⟩ rfl (by decide) F hp ?_
  clear F hp
  intro a F hp
  refine fr_or _ _ _ _ _ _ _ _ _ _ .eq _ _ _ ⟨rfl, rfl, rfl⟩ ⟨rfl, rfl, rfl⟩ ⟨rfl, rfl, rfl⟩ ⟨rfl, rfl, rfl⟩ rfl (by decide) F hp ?_
  clear F hp
  intro a F hp
  refine fr_or _ _ _ _ _ _ _ _ _ _ .eq _ _ _ ⟨rfl, rfl, rfl⟩ ⟨rfl, rfl, rfl⟩ ⟨rfl, rfl, rfl⟩ ⟨rfl, rfl, rfl⟩ rfl (by decide) F hp ?_
  clear F hp
  intro a F hp
  refine fr_or _ _ _ _ _ _ _ _ _ _ .eq _ _ _ ⟨rfl, rfl, rfl⟩ ⟨rfl, rfl, rfl⟩ ⟨rfl, rfl, rfl⟩ ⟨rfl, rfl, rfl⟩ rfl (by decide) F hp ?_
  clear F hp
  intro a F hp
  refine fr_or _ _ _ _ _ _ _ _ _ _ .eq _ _ _ ⟨rfl, rfl, rfl⟩ ⟨rfl, rfl, rfl⟩ ⟨rfl, rfl, rfl⟩ ⟨rfl, rfl, rfl⟩ rfl (by decide) F hp ?_
  clear F hp
  intro a F hp
  refine fr_rng _ _ _ _ _ _ _ _ _ _ _ _ _ _ _ _ _ _ _ _ _ _ _ _ ⟨rfl, rfl, rfl⟩ ⟨rfl, rfl, rfl⟩ ⟨rfl, rfl, rfl⟩ ⟨rfl, rfl, rfl⟩ ⟨rfl, rfl, rfl⟩ ⟨rfl, rfl, rfl⟩ ⟨rfl, rfl, rfl⟩ ⟨rfl, rfl, rfl⟩ rfl rfl (by decide) F hp ?_
  clear F hp
  intro a F hp
  refine fr_rng _ _ _ _ _ _ _ _ _ _ _ _ _ _ _ _ _ _ _ _ _ _ _ _ ⟨rfl, rfl, rfl⟩ ⟨rfl, rfl, rfl⟩ ⟨rfl, rfl, rfl⟩ ⟨rfl, rfl, rfl⟩ ⟨rfl, rfl, rfl⟩ ⟨rfl, rfl, rfl⟩ ⟨rfl, rfl, rfl⟩ ⟨rfl, rfl, rfl⟩ rfl rfl (by decide) F hp ?_
  clear F hp
  intro a F hp
  refine fr_or _ _ _ _ _ _ _ _ _ _ .eq _ _ _ ⟨rfl, rfl, rfl⟩ ⟨rfl, rfl, rfl⟩ ⟨rfl, rfl, rfl⟩ ⟨rfl, rfl, rfl⟩ rfl (by decide) F hp ?_
  clear F hp
  intro a F hp
  refine fr_or _ _ _ _ _ _ _ _ _ _ .eq _ _ _ ⟨rfl, rfl, rfl⟩ ⟨rfl, rfl, rfl⟩ ⟨rfl, rfl, rfl⟩ ⟨rfl, rfl, rfl⟩ rfl (by decide) F hp ?_
  clear F hp
  intro a F hp
  refine fr_or _ _ _ _ _ _ _ _ _ _ .eq _ _ _ ⟨rfl, rfl, rfl⟩ ⟨rfl, rfl, rfl⟩ ⟨rfl, rfl, rfl⟩ ⟨rfl, rfl, rfl⟩ rfl (by decide) F hp ?_
  clear F hp
  intro a F hp
  refine fr_rng _ _ _ _ _ _ _ _ _ _ _ _ _ _ _ _ _ _ _ _ _ _ _ _ ⟨rfl, rfl, rfl⟩ ⟨rfl, rfl, rfl⟩ ⟨rfl, rfl, rfl⟩ ⟨rfl, rfl, rfl⟩ ⟨rfl, rfl, rfl⟩ ⟨rfl, rfl, rfl⟩ ⟨rfl, rfl, rfl⟩ ⟨rfl, rfl, rfl⟩ rfl rfl (by decide) F hp ?_
  clear F hp
  intro a F hp
  refine fr_or _ _ _ _ _ _ _ _ _ _ .eq _ _ _ ⟨rfl, rfl, rfl⟩ ⟨rfl, rfl, rfl⟩ ⟨rfl, rfl, rfl⟩ ⟨rfl, rfl, rfl⟩ rfl (by decide) F hp ?_
  clear F hp
  intro a F hp
  refine fr_as _ _ _ _ ⟨rfl, rfl, rfl⟩ (by decide) F hp ?_
  clear F hp
  intro a F hp
  refine wpList_nil ?_
  change Code.wp _ _ _ _ _
  change a.eval _ = .bool (b0 x) at hp
  refine wp_cond_split hp (fun h0 => ?_) (fun h0 => ?_)
  · refine wp_seq ?_
    refine wp_region_lit ?_
    refine fr_two _ _ _ _ ⟨rfl, rfl, rfl⟩ ⟨rfl, rfl, rfl⟩ (by decide) F ?_
    clear F hp
    intro a F e1 e2
    refine wpList_nil ?_
    change Code.wp _ _ _ _ _
    refine wp_ret ?_
    simp only [Exit.inBlock, Exit.then]
    refine bodyPost_ret (results_tmp2 rfl _ _ _) F.2.1 ⟨?_, rfl⟩
    rw [show a.tmps.getD 2 undef = _ from e1, show a.tmps.getD 3 undef = _ from e2]
    simp [pr, rk, h0]
  clear hp
  refine wp_seq ?_
  refine wp_region_lit ?_
  try simp only [List.cons_append, List.nil_append]
  refine fr_cmp _ _ _ _ .eq _ _ ⟨rfl, rfl, rfl⟩ ⟨rfl, rfl, rfl⟩ (by decide) F ?_
  clear F
  intro a F hp
  refine fr_or _ _ _ _ _ _ _ _ _ _ .eq _ _ _ ⟨rfl, rfl, rfl⟩ ⟨rfl, rfl, rfl⟩ ⟨rfl, rfl, rfl⟩ ⟨rfl, rfl, rfl⟩ rfl (by decide) F hp ?_
  clear F hp
  intro a F hp
  refine fr_or _ _ _ _ _ _ _ _ _ _ .eq _ _ _ ⟨rfl, rfl, rfl⟩ ⟨rfl, rfl, rfl⟩ ⟨rfl, rfl, rfl⟩ ⟨rfl, rfl, rfl⟩ rfl (by decide) F hp ?_
  clear F hp
  intro a F hp
  refine fr_rng _ _ _ _ _ _ _ _ _ _ _ _ _ _ _ _ _ _ _ _ _ _ _ _ ⟨rfl, rfl, rfl⟩ ⟨rfl, rfl, rfl⟩ ⟨rfl, rfl, rfl⟩ ⟨rfl, rfl, rfl⟩ ⟨rfl, rfl, rfl⟩ ⟨rfl, rfl, rfl⟩ ⟨rfl, rfl, rfl⟩ ⟨rfl, rfl, rfl⟩ rfl rfl (by decide) F hp ?_
  clear F hp
  intro a F hp
  refine fr_or _ _ _ _ _ _ _ _ _ _ .eq _ _ _ ⟨rfl, rfl, rfl⟩ ⟨rfl, rfl, rfl⟩ ⟨rfl, rfl, rfl⟩ ⟨rfl, rfl, rfl⟩ rfl (by decide) F hp ?_
  clear F hp
  intro a F hp
  refine fr_or _ _ _ _ _ _ _ _ _ _ .eq _ _ _ ⟨rfl, rfl, rfl⟩ ⟨rfl, rfl, rfl⟩ ⟨rfl, rfl, rfl⟩ ⟨rfl, rfl, rfl⟩ rfl (by decide) F hp ?_
  clear F hp
  intro a F hp
  refine fr_or _ _ _ _ _ _ _ _ _ _ .eq _ _ _ ⟨rfl, rfl, rfl⟩ ⟨rfl, rfl, rfl⟩ ⟨rfl, rfl, rfl⟩ ⟨rfl, rfl, rfl⟩ rfl (by decide) F hp ?_
  clear F hp
  intro a F hp
  refine fr_or _ _ _ _ _ _ _ _ _ _ .eq _ _ _ ⟨rfl, rfl, rfl⟩ ⟨rfl, rfl, rfl⟩ ⟨rfl, rfl, rfl⟩ ⟨rfl, rfl, rfl⟩ rfl (by decide) F hp ?_
  clear F hp
  intro a F hp
  refine fr_or _ _ _ _ _ _ _ _ _ _ .eq _ _ _ ⟨rfl, rfl, rfl⟩ ⟨rfl, rfl, rfl⟩ ⟨rfl, rfl, rfl⟩ ⟨rfl, rfl, rfl⟩ rfl (by decide) F hp ?_
  clear F hp
  intro a F hp
  refine fr_or _ _ _ _ _ _ _ _ _ _ .eq _ _ _ ⟨rfl, rfl, rfl⟩ ⟨rfl, rfl, rfl⟩ ⟨rfl, rfl, rfl⟩ ⟨rfl, rfl, rfl⟩ rfl (by decide) F hp ?_
  clear F hp
  intro a F hp
  refine fr_rng _ _ _ _ _ _ _ _ _ _ _ _ _ _ _ _ _ _ _ _ _ _ _ _ ⟨rfl, rfl, rfl⟩ ⟨rfl, rfl, rfl⟩ ⟨rfl, rfl, rfl⟩ ⟨rfl, rfl, rfl⟩ ⟨rfl, rfl, rfl⟩ ⟨rfl, rfl, rfl⟩ ⟨rfl, rfl, rfl⟩ ⟨rfl, rfl, rfl⟩ rfl rfl (by decide) F hp ?_
  clear F hp
  intro a F hp
  refine fr_as _ _ _ _ ⟨rfl, rfl, rfl⟩ (by decide) F hp ?_
  clear F hp
  intro a F hp
  refine wpList_nil ?_
  change Code.wp _ _ _ _ _
  change a.eval _ = .bool (b1 x) at hp
  refine wp_cond_split hp (fun h1 => ?_) (fun h1 => ?_)
  · refine wp_seq ?_
    refine wp_region_lit ?_
    refine fr_two _ _ _ _ ⟨rfl, rfl, rfl⟩ ⟨rfl, rfl, rfl⟩ (by decide) F ?_
    clear F hp
    intro a F e1 e2
    refine wpList_nil ?_
    change Code.wp _ _ _ _ _
    refine wp_ret ?_
    simp only [Exit.inBlock, Exit.then]
    refine bodyPost_ret (results_tmp2 rfl _ _ _) F.2.1 ⟨?_, rfl⟩
    rw [show a.tmps.getD 2 undef = _ from e1, show a.tmps.getD 3 undef = _ from e2]
    simp [pr, rk, h0, h1]
  clear hp
  refine wp_seq ?_
  refine wp_region_lit ?_
  try simp only [List.cons_append, List.nil_append]
  refine fr_cmp _ _ _ _ .eq _ _ ⟨rfl, rfl, rfl⟩ ⟨rfl, rfl, rfl⟩ (by decide) F ?_
  clear F
  intro a F hp
  refine fr_or _ _ _ _ _ _ _ _ _ _ .eq _ _ _ ⟨rfl, rfl, rfl⟩ ⟨rfl, rfl, rfl⟩ ⟨rfl, rfl, rfl⟩ ⟨rfl, rfl, rfl⟩ rfl (by decide) F hp ?_
  clear F hp
  intro a F hp
  refine fr_or _ _ _ _ _ _ _ _ _ _ .eq _ _ _ ⟨rfl, rfl, rfl⟩ ⟨rfl, rfl, rfl⟩ ⟨rfl, rfl, rfl⟩ ⟨rfl, rfl, rfl⟩ rfl (by decide) F hp ?_
  clear F hp
  intro a F hp
  refine fr_or _ _ _ _ _ _ _ _ _ _ .eq _ _ _ ⟨rfl, rfl, rfl⟩ ⟨rfl, rfl, rfl⟩ ⟨rfl, rfl, rfl⟩ ⟨rfl, rfl, rfl⟩ rfl (by decide) F hp ?_
  clear F hp
  intro a F hp
  refine fr_or _ _ _ _ _ _ _ _ _ _ .eq _ _ _ ⟨rfl, rfl, rfl⟩ ⟨rfl, rfl, rfl⟩ ⟨rfl, rfl, rfl⟩ ⟨rfl, rfl, rfl⟩ rfl (by decide) F hp ?_
  clear F hp
  intro a F hp
  refine fr_as _ _ _ _ ⟨rfl, rfl, rfl⟩ (by decide) F hp ?_
  clear F hp
  intro a F hp
  refine wpList_nil ?_
  change Code.wp _ _ _ _ _
  change a.eval _ = .bool (b2 x) at hp
  refine wp_cond_split hp (fun h2 => ?_) (fun h2 => ?_)
  · refine wp_seq ?_
    refine wp_region_lit ?_
    refine fr_two _ _ _ _ ⟨rfl, rfl, rfl⟩ ⟨rfl, rfl, rfl⟩ (by decide) F ?_
    clear F hp
    intro a F e1 e2
    refine wpList_nil ?_
    change Code.wp _ _ _ _ _
    refine wp_ret ?_
    simp only [Exit.inBlock, Exit.then]
    refine bodyPost_ret (results_tmp2 rfl _ _ _) F.2.1 ⟨?_, rfl⟩
    rw [show a.tmps.getD 2 undef = _ from e1, show a.tmps.getD 3 undef = _ from e2]
    simp [pr, rk, h0, h1, h2]
  clear hp
  refine wp_seq ?_
  refine wp_region_lit ?_
  try simp only [List.cons_append, List.nil_append]
  refine fr_cmp _ _ _ _ .eq _ _ ⟨rfl, rfl, rfl⟩ ⟨rfl, rfl, rfl⟩ (by decide) F ?_
  clear F
  intro a F hp
  refine fr_as _ _ _ _ ⟨rfl, rfl, rfl⟩ (by decide) F hp ?_
  clear F hp
  intro a F hp
  refine wpList_nil ?_
  change Code.wp _ _ _ _ _
  change a.eval _ = .bool (b3 x) at hp
  refine wp_cond_split hp (fun h3 => ?_) (fun h3 => ?_)
  · refine wp_seq ?_
    refine wp_region_lit ?_
    refine fr_two _ _ _ _ ⟨rfl, rfl, rfl⟩ ⟨rfl, rfl, rfl⟩ (by decide) F ?_
    clear F hp
    intro a F e1 e2
    refine wpList_nil ?_
    change Code.wp _ _ _ _ _
    refine wp_ret ?_
    simp only [Exit.inBlock, Exit.then]
    refine bodyPost_ret (results_tmp2 rfl _ _ _) F.2.1 ⟨?_, rfl⟩
    rw [show a.tmps.getD 2 undef = _ from e1, show a.tmps.getD 3 undef = _ from e2]
    simp [pr, rk, h0, h1, h2, h3]
  clear hp
  refine wp_seq ?_
  refine wp_region_lit ?_
  try simp only [List.cons_append, List.nil_append]
  refine fr_cmp _ _ _ _ .eq _ _ ⟨rfl, rfl, rfl⟩ ⟨rfl, rfl, rfl⟩ (by decide) F ?_
  clear F
  intro a F hp
  refine fr_as _ _ _ _ ⟨rfl, rfl, rfl⟩ (by decide) F hp ?_
  clear F hp
  intro a F hp
  refine wpList_nil ?_
  change Code.wp _ _ _ _ _
  change a.eval _ = .bool (b4 x) at hp
  refine wp_cond_split hp (fun h4 => ?_) (fun h4 => ?_)
  · refine wp_seq ?_
    refine wp_region_lit ?_
    refine fr_two _ _ _ _ ⟨rfl, rfl, rfl⟩ ⟨rfl, rfl, rfl⟩ (by decide) F ?_
    clear F hp
    intro a F e1 e2
    refine wpList_nil ?_
    change Code.wp _ _ _ _ _
    refine wp_ret ?_
    simp only [Exit.inBlock, Exit.then]
    refine bodyPost_ret (results_tmp2 rfl _ _ _) F.2.1 ⟨?_, rfl⟩
    rw [show a.tmps.getD 2 undef = _ from e1, show a.tmps.getD 3 undef = _ from e2]
    simp [pr, rk, h0, h1, h2, h3, h4]
  clear hp
  refine wp_seq ?_
  refine wp_region_lit ?_
  try simp only [List.cons_append, List.nil_append]
  refine fr_call _ _ _ _ _ _ _ ⟨rfl, rfl, rfl⟩ ⟨rfl, rfl, rfl⟩ (by decide) F (run_cf Try.func11 (by decide) rfl _ _) (refWidth_any x w) ?_
  clear F
  intro a F hp
  refine fr_cm1 _ _ _ .gt _ _ _ ⟨rfl, rfl, rfl⟩ (by decide) F hp ?_
  clear F hp
  intro a F hp
  refine fr_as _ _ _ _ ⟨rfl, rfl, rfl⟩ (by decide) F hp ?_
  clear F hp
  intro a F hp
  refine wpList_nil ?_
  change Code.wp _ _ _ _ _
  change a.eval _ = .bool (b5 x) at hp
  refine wp_cond_split hp (fun h5 => ?_) (fun h5 => ?_)
  · refine wp_seq ?_
    refine wp_region_lit ?_
    refine fr_two _ _ _ _ ⟨rfl, rfl, rfl⟩ ⟨rfl, rfl, rfl⟩ (by decide) F ?_
    clear F hp
    intro a F e1 e2
    refine wpList_nil ?_
    change Code.wp _ _ _ _ _
    refine wp_ret ?_
    simp only [Exit.inBlock, Exit.then]
    refine bodyPost_ret (results_tmp2 rfl _ _ _) F.2.1 ⟨?_, rfl⟩
    rw [show a.tmps.getD 2 undef = _ from e1, show a.tmps.getD 3 undef = _ from e2]
    simp [pr, rk, h0, h1, h2, h3, h4, h5]
  clear hp
  refine wp_seq ?_
  refine wp_region_lit ?_
  try simp only [List.cons_append, List.nil_append]
  refine fr_cmp _ _ _ _ .ge _ _ ⟨rfl, rfl, rfl⟩ ⟨rfl, rfl, rfl⟩ (by decide) F ?_
  clear F
  intro a F hp
  refine fr_and _ _ _ _ _ _ _ _ _ _ .le _ _ _ ⟨rfl, rfl, rfl⟩ ⟨rfl, rfl, rfl⟩ ⟨rfl, rfl, rfl⟩ ⟨rfl, rfl, rfl⟩ rfl (by decide) F hp ?_
  clear F hp
  intro a F hp
  refine fr_as _ _ _ _ ⟨rfl, rfl, rfl⟩ (by decide) F hp ?_
  clear F hp
  intro a F hp
  refine wpList_nil ?_
  change Code.wp _ _ _ _ _
  change a.eval _ = .bool (b6 x) at hp
  refine wp_cond_split hp (fun h6 => ?_) (fun h6 => ?_)
  · refine wp_seq ?_
    refine wp_region_lit ?_
    refine fr_two _ _ _ _ ⟨rfl, rfl, rfl⟩ ⟨rfl, rfl, rfl⟩ (by decide) F ?_
    clear F hp
    intro a F e1 e2
    refine wpList_nil ?_
    change Code.wp _ _ _ _ _
    refine wp_ret ?_
    simp only [Exit.inBlock, Exit.then]
    refine bodyPost_ret (results_tmp2 rfl _ _ _) F.2.1 ⟨?_, rfl⟩
    rw [show a.tmps.getD 2 undef = _ from e1, show a.tmps.getD 3 undef = _ from e2]
    simp [pr, rk, h0, h1, h2, h3, h4, h5, h6]
  clear hp
  refine wp_seq ?_
  refine wp_region_lit ?_
  try simp only [List.cons_append, List.nil_append]
  refine fr_cmp _ _ _ _ .eq _ _ ⟨rfl, rfl, rfl⟩ ⟨rfl, rfl, rfl⟩ (by decide) F ?_
  clear F
  intro a F hp
  refine fr_as _ _ _ _ ⟨rfl, rfl, rfl⟩ (by decide) F hp ?_
  clear F hp
  intro a F hp
  refine wpList_nil ?_
  change Code.wp _ _ _ _ _
  change a.eval _ = .bool (b7 x) at hp
  refine wp_cond_split hp (fun h7 => ?_) (fun h7 => ?_)
  · refine wp_seq ?_
    refine wp_region_lit ?_
    refine fr_two _ _ _ _ ⟨rfl, rfl, rfl⟩ ⟨rfl, rfl, rfl⟩ (by decide) F ?_
    clear F hp
    intro a F e1 e2
    refine wpList_nil ?_
    change Code.wp _ _ _ _ _
    refine wp_ret ?_
    simp only [Exit.inBlock, Exit.then]
    refine bodyPost_ret (results_tmp2 rfl _ _ _) F.2.1 ⟨?_, rfl⟩
    rw [show a.tmps.getD 2 undef = _ from e1, show a.tmps.getD 3 undef = _ from e2]
    simp [pr, rk, h0, h1, h2, h3, h4, h5, h6, h7]
  clear hp
  refine wp_seq ?_
  refine wp_region_lit ?_
  try simp only [List.cons_append, List.nil_append]
  refine fr_cmp _ _ _ _ .eq _ _ ⟨rfl, rfl, rfl⟩ ⟨rfl, rfl, rfl⟩ (by decide) F ?_
  clear F
  intro a F hp
  refine fr_or _ _ _ _ _ _ _ _ _ _ .eq _ _ _ ⟨rfl, rfl, rfl⟩ ⟨rfl, rfl, rfl⟩ ⟨rfl, rfl, rfl⟩ ⟨rfl, rfl, rfl⟩ rfl (by decide) F hp ?_
  clear F hp
  intro a F hp
  refine fr_as _ _ _ _ ⟨rfl, rfl, rfl⟩ (by decide) F hp ?_
  clear F hp
  intro a F hp
  refine wpList_nil ?_
  change Code.wp _ _ _ _ _
  change a.eval _ = .bool (b8 x) at hp
  refine wp_cond_split hp (fun h8 => ?_) (fun h8 => ?_)
  · refine wp_seq ?_
    refine wp_region_lit ?_
    refine fr_two _ _ _ _ ⟨rfl, rfl, rfl⟩ ⟨rfl, rfl, rfl⟩ (by decide) F ?_
    clear F hp
    intro a F e1 e2
    refine wpList_nil ?_
    change Code.wp _ _ _ _ _
    refine wp_ret ?_
    simp only [Exit.inBlock, Exit.then]
    refine bodyPost_ret (results_tmp2 rfl _ _ _) F.2.1 ⟨?_, rfl⟩
    rw [show a.tmps.getD 2 undef = _ from e1, show a.tmps.getD 3 undef = _ from e2]
    simp [pr, rk, h0, h1, h2, h3, h4, h5, h6, h7, h8]
  clear hp
  refine wp_seq ?_
  refine wp_region_lit ?_
  try simp only [List.cons_append, List.nil_append]
  refine fr_call _ _ _ _ _ _ _ ⟨rfl, rfl, rfl⟩ ⟨rfl, rfl, rfl⟩ (by decide) F (run_cf Try.func18 (by decide) rfl _ _) (refFloats_any x w) ?_
  clear F
  intro a F hp
  refine fr_as _ _ _ _ ⟨rfl, rfl, rfl⟩ (by decide) F hp ?_
  clear F hp
  intro a F hp
  refine wpList_nil ?_
  change Code.wp _ _ _ _ _
  change a.eval _ = .bool (b9 x) at hp
  refine wp_cond_split hp (fun h9 => ?_) (fun h9 => ?_)
  · refine wp_seq ?_
    refine wp_region_lit ?_
    refine fr_two _ _ _ _ ⟨rfl, rfl, rfl⟩ ⟨rfl, rfl, rfl⟩ (by decide) F ?_
    clear F hp
    intro a F e1 e2
    refine wpList_nil ?_
    change Code.wp _ _ _ _ _
    refine wp_ret ?_
    simp only [Exit.inBlock, Exit.then]
    refine bodyPost_ret (results_tmp2 rfl _ _ _) F.2.1 ⟨?_, rfl⟩
    rw [show a.tmps.getD 2 undef = _ from e1, show a.tmps.getD 3 undef = _ from e2]
    simp [pr, rk, h0, h1, h2, h3, h4, h5, h6, h7, h8, h9]
  clear hp
  refine wp_skip ?_
  simp only [Exit.inBlock, Exit.then]
  refine wp_seq ?_
  refine wp_region_lit ?_
  refine fr_two _ _ _ _ ⟨rfl, rfl, rfl⟩ ⟨rfl, rfl, rfl⟩ (by decide) F ?_
  clear F
  intro a F e1 e2
  refine wpList_nil ?_
  change Code.wp _ _ _ _ _
  refine wp_ret ?_
  try simp only [Exit.inBlock, Exit.then]
  refine bodyPost_ret (results_tmp2 rfl _ _ _) F.2.1 ⟨?_, rfl⟩
  rw [show a.tmps.getD 2 undef = _ from e1, show a.tmps.getD 3 undef = _ from e2]
  simp [pr, rk, h0, h1, h2, h3, h4, h5, h6, h7, h8, h9]
end Go.Proofs.Ytonkcfnegnghcaa
