/- The document's Depth and SameBlocks. -/
import Derived.Test.YtfmncljcogijhaaRefCtrl
namespace Go.Proofs.Ytfmncljcogijhaa
open Go.RowKit
set_option maxRecDepth 100000
set_option linter.unusedVariables false

def nowB (s : BS) : Int := (s.o.length : Int) - (if s.over then 1 else 0)
theorem stB_live {ops : List Int} {s : BS} (h : resB ops = some s) {k : Nat} (hk : k ≤ ops.length) : ∃ s', stB ops k = some s' := by
  cases h1 : stB ops k with
  | some s' => exact ⟨s', rfl⟩
  | none => rw [resB_none h1 hk] at h; cases h
theorem stB_fore {ops : List Int} {s s' : BS} {k : Nat} (h : stB ops k = some s) (h' : stB ops (k + 1) = some s') : s.over = false := by
  cases hv : s.over with
  | false => rfl
  | true => rw [stB_over h hv] at h'; cases h'
/-- How deep, behind one more. -/
theorem now_step {ops : List Int} {s s' : BS} {k : Nat} (h : stB ops k = some s) (h' : stB ops (k + 1) = some s') :
    nowB s = s.o.length ∧ nowB s' = (if ops.getD k 0 = 2 ∨ ops.getD k 0 = 3 ∨ ops.getD k 0 = 4 then nowB s + 1 else if ops.getD k 0 = 11 then nowB s - 1 else nowB s) ∧ ((s'.d : Int) = max (s.d : Int) (nowB s')) ∧ -1 ≤ nowB s' ∧ nowB s' ≤ k + 1 := by
  have hv := stB_fore h h'
  have hi := stB_inv _ _ _ h
  have hi' := stB_inv _ _ _ h'
  have hd0 := hi.d0
  have hd1 := hi'.d0
  have hd2 := hi'.d1
  rw [stB_step h hv] at h'
  have hn : nowB s = s.o.length := by unfold nowB; rw [hv]; simp
  refine ⟨hn, ?_⟩
  generalize ops.getD k 0 = op at *
  by_cases h1 : op = 2 ∨ op = 3 ∨ op = 4
  · rw [meet_open h1] at h'
    injection h' with h'; subst h'
    have : nowB (begB k s) = s.o.length + 1 := by unfold nowB begB; simp [hv]
    rw [if_pos h1, this, hn]
    refine ⟨rfl, ?_, by omega, ?_⟩
    · simp only [begB]; omega
    · simp only [begB, List.length_append, List.length_singleton] at hd1 hd2; omega
  rw [if_neg h1]
  by_cases h11 : op = 11
  · subst h11
    rw [if_pos rfl]
    rcases last_of s.o with he | ⟨p, z, he⟩
    · rw [meet_end0 he] at h'
      injection h' with h'; subst h'
      have : nowB ⟨s.o, s.f, s.n, s.d, true⟩ = s.o.length - 1 := by unfold nowB; simp
      rw [this, hn]
      have h0 : s.o.length = 0 := by rw [he]; rfl
      exact ⟨rfl, by simp only; omega, by omega, by omega⟩
    · rw [meet_end1 he] at h'
      injection h' with h'; subst h'
      have h0 : s.o.length = p.length + 1 := by rw [he]; simp
      have : nowB ⟨p, updE s.f z (elseE s.f z, some (k : Int)), cntE s.f z s.n, s.d, s.over⟩ = s.o.length - 1 := by unfold nowB; simp [hv]; omega
      rw [this, hn]
      exact ⟨rfl, by simp only; omega, by omega, by have := hi.d1; omega⟩
  rw [if_neg h11]
  have key : s'.o = s.o ∧ s'.d = s.d ∧ s'.over = s.over := by
    by_cases h5 : op = 5
    · subst h5
      unfold meetB at h'
      rw [if_neg h1, if_pos rfl] at h'
      split at h'
      · cases h'
      · split at h'
        · cases h'
        · injection h' with h'; subst h'; exact ⟨rfl, rfl, rfl⟩
    · rw [meet_skip h1 h5 h11] at h'
      injection h' with h'; subst h'; exact ⟨rfl, rfl, rfl⟩
  have : nowB s' = s.o.length := by unfold nowB; rw [key.1, key.2.2, hv]; simp
  rw [this, hn, key.2.1]
  exact ⟨rfl, by omega, by omega, by have := hi.d1; omega⟩

set_option maxHeartbeats 2000000 in
theorem rdepth_any (A : Option Addr) (n c : Nat) (is : List IV) (w : World) (hl : RdN (· < w.heap.size) w (.slice A n c) is) (hnn : n = is.length) (hn : n ≤ 5000) :
    Calls Try.prog 12 #[.slice A n c] w fun e w' => e = .returned (.int .i64 (depB (resB (opsOf is)))) ∧ Below w.heap.size w w' := by
  have C := Lib.hid (rblocks_any A n c is w hl hnn hn)
  have HL := Lib.hid (And.intro hl hnn)
  have HO : Hid ((opsOf is).length = n) := by unfold Hid; rw [opsOf_len, hnn]
  clear hl hnn
  generalize hops : opsOf is = ops at *
  have HOP := Lib.hid hops
  clear hops
  cases hr : resB ops with
  | none =>
    rw [hr] at C
    clear hr
    go_enter Try.func12, Try.ntmps12
    go_wp2_with fail
    refine C.out.mono ?_
    rintro e w2 ⟨v, rfl, h2, h3⟩
    simp only [BlkV] at h2
    subst h2
    have HB := Lib.hid h3
    clear C h3
    go_wp2
    go_loop [5, 6, 7] (fun m nw i => m = .int .i64 0 ∧ nw = .int .i64 0 ∧ i = .int .i64 0) (fun _ _ _ => 0)
    case atStart => exact ⟨rfl, rfl, rfl⟩
    case round =>
      obtain ⟨rfl, rfl, rfl⟩ := hrel
      by_cases h0 : (0 : Int) < n
      · go_wp2
        go_ret
        exact ⟨rfl, HB.out⟩
      · go_wp2
        go_ret
        exact ⟨rfl, HB.out⟩
  | some s =>
    rw [hr] at C
    have HR := Lib.hid hr
    clear hr
    go_enter Try.func12, Try.ntmps12
    go_wp2_with fail
    refine C.out.mono ?_
    rintro e w2 ⟨v, rfl, h2, h3⟩
    obtain ⟨m, rfl⟩ := h2.form
    have HB := Lib.hid h3
    have HLR := Lib.hid (HL.out.1.later h3)
    clear C h2 h3
    go_wp2
    go_loop [5, 6, 7] (fun m nw i => ∃ (k : Nat) (sk : BS), k ≤ n ∧ i = .int .i64 k ∧ m = .int .i64 sk.d ∧ nw = .int .i64 (nowB sk) ∧ Hid (stB ops k = some sk)) (fun _ _ i => n - (intOf i).toNat)
    case atStart => exact ⟨0, bs0, Nat.zero_le _, rfl, rfl, rfl, rfl⟩
    case round =>
      obtain ⟨k, sk, hk, rfl, rfl, rfl, HX⟩ := hrel
      by_cases hlt : k < n
      · have hlt2 : (k : Int) < n := by omega
        have hk0 : 0 ≤ k := Nat.zero_le _
        have hlt3 : (k : Int) < is.length := by rw [← HL.out.2]; omega
        obtain ⟨b2, o2, rfl, cop, -⟩ := op_at HLR.out (z := (k : Int)) (by omega) hlt3
        rw [Int.toNat_natCast] at cop
        change w2.cell? ⟨b2, o2 + k * 6, none⟩ = some (.int .i64 ((opsOf is).getD k 0)) at cop
        rw [HOP.out] at cop
        obtain ⟨s', hs'⟩ := stB_live HR.out (k := k + 1) (by rw [HO.out]; omega)
        have hnow := now_step HX.out hs'
        have HS := Lib.hid hs'
        clear hlt3 hs'
        obtain ⟨hn0, hn1, hn2, hn3, hn4⟩ := hnow
        generalize ops.getD k 0 = op at *
        have hd0 := (stB_inv _ _ _ HX.out).d0
        have hd1 := (stB_inv _ _ _ HX.out).d1
        generalize sk.o.length = ql at *
        generalize sk.d = d at *
        generalize nowB sk = nw at *
        generalize hnw : nowB s' = nw' at *
        generalize hdd : s'.d = d' at *
        have HE := Lib.hid (And.intro hnw hdd)
        clear hnw hdd
        by_cases h234 : op = 2 ∨ op = 3 ∨ op = 4
        · rw [if_pos h234] at hn1
          have hw : wrap64 (nw + 1) = nw + 1 := by unfold wrap64; omega
          clear hn3 hn4
          rcases h234 with rfl | rfl | rfl
          all_goals go_wp2
          all_goals
            refine ⟨⟨k + 1, s', by omega, by go_num, ?_, ?_, HS.out⟩, ?_⟩
            · rw [HE.out.2]; congr 1; omega
            · rw [HE.out.1]; congr 1; omega
            · simp [intOf]; omega
        rw [if_neg h234] at hn1
        by_cases h11 : op = 11
        · subst h11
          rw [if_pos rfl] at hn1
          have hw : wrap64 (nw - 1) = nw - 1 := by unfold wrap64; omega
          clear hn3 hn4 h234
          go_wp2
          all_goals
            refine ⟨⟨k + 1, s', by omega, by go_num, ?_, ?_, HS.out⟩, ?_⟩
            · rw [HE.out.2]; congr 1; omega
            · rw [HE.out.1]; congr 1; omega
            · simp [intOf]; omega
        rw [if_neg h11] at hn1
        have e11 : (op == 11) = false := by simpa using h11
        clear hn3 hn4 h11
        by_cases h2 : (2 : Int) ≤ op
        · have h4 : ¬ op ≤ 4 := by omega
          clear h234
          go_wp2
          all_goals
            refine ⟨⟨k + 1, s', by omega, by go_num, ?_, ?_, HS.out⟩, ?_⟩
            · rw [HE.out.2]; congr 1; omega
            · rw [HE.out.1]; congr 1; omega
            · simp [intOf]; omega
        · clear h234
          go_wp2
          all_goals
            refine ⟨⟨k + 1, s', by omega, by go_num, ?_, ?_, HS.out⟩, ?_⟩
            · rw [HE.out.2]; congr 1; omega
            · rw [HE.out.1]; congr 1; omega
            · simp [intOf]; omega
      · obtain rfl : k = n := by omega
        have hd : (sk.d : Int) = depB (some s) := by
          have h1 := (resB_some HR.out).1
          rw [HO.out] at h1
          have := HX.out.symm.trans h1
          injection this with this
          subst this; rfl
        generalize nowB sk = nw at *
        go_wp2
        go_ret
        exact ⟨by rw [← hd]; rfl, HB.out⟩

theorem vw_form (z : Int) (e : Int × Option Int) : ∃ a b, vw z e = .agg #[.int .i64 a, .int .i64 b] := ⟨_, _, rfl⟩
theorem fw_getD (f : Int → Option (Int × Option Int)) (i : Int) : ∃ a b, (fw 0 f i).getD (.agg #[.int .i64 0, .int .i64 0]) = .agg #[.int .i64 a, .int .i64 b] := by
  unfold fw
  cases f i with
  | none => exact ⟨0, 0, rfl⟩
  | some e => exact vw_form 0 e
set_option maxHeartbeats 2000000 in
theorem rsame_map (ba bb n : Nat) (f : Int → Option (Int × Option Int)) (w : World) (ha : MapAt w ba .i64 (fw 0 f) n) (hb : MapAt w bb .i64 (fw 0 f) n) :
    Calls Try.prog 10 #[.map (some ba), .map (some bb)] w fun e w' => e = .returned (.bool true) ∧ Below w.heap.size w w' := by
  have HM := Lib.hid (And.intro ha hb)
  have hla := ha.len under_bmap 3
  have hlb := hb.len under_bmap 3
  have hne : ((n : Int) != n) = false := by simp
  clear ha hb
  go_enter Try.func10, Try.ntmps10
  go_wp2
  clear hla hlb
  go_loopw [5] (fun i wr => ∃ (k : Nat), k ≤ 2000 ∧ i = .int .i64 k ∧ Hid (Below w.heap.size w wr)) (fun i _ => 2000 - (intOf i).toNat)
  case atStart => exact ⟨0, by omega, rfl, Below.refl _ _⟩
  case round =>
    obtain ⟨k, hk, rfl, HX⟩ := hrel
    by_cases hlt : k < 2000
    · have hlt2 : (k : Int) < 2000 := by omega
      have hwf := i64_wf (z := (k : Int)) (by omega) (by omega)
      have ha := HM.out.1.later HX.out
      have hb := HM.out.2.later HX.out
      have h1 := ha.look under_int under_bmap (zero_block _) k hwf true
      obtain ⟨a, b, hg⟩ := fw_getD f k
      rw [hg] at h1
      simp only [if_true] at h1
      have h2 := (hb.chg (S := fun _ => False) (Chg.alloc wr (.cells #[.int .i64 a, .int .i64 b] 53)) id).look under_int under_bmap (zero_block _) k hwf true
      rw [hg] at h2
      simp only [if_true] at h2
      have HS := Lib.hid hb.lt
      clear hg hwf ha hb
      generalize (fw 0 f k).isSome = s at *
      have hss : (s != s) = false := by simp
      go_wp2
      refine ⟨⟨k + 1, by omega, by go_num, HX.out.trans ((((Below.refl _ _).alloc (Nat.le_refl _) _).alloc (by simp) _).mono HX.out.size)⟩, ?_⟩
      simp [intOf]; omega
    · obtain rfl : k = 2000 := by omega
      go_wp2
      go_ret
      exact ⟨rfl, HX.out⟩
set_option maxHeartbeats 2000000 in
theorem rsame_nil (w : World) : Calls Try.prog 10 #[.map none, .map none] w fun e w' => e = .returned (.bool true) ∧ Below w.heap.size w w' := by
  have hla := nil_len (w := w) under_bmap 3
  have hne : ((0 : Int) != 0) = false := by simp
  go_enter Try.func10, Try.ntmps10
  go_wp2
  clear hla
  go_loopw [5] (fun i wr => ∃ (k : Nat), k ≤ 2000 ∧ i = .int .i64 k ∧ Hid (Below w.heap.size w wr)) (fun i _ => 2000 - (intOf i).toNat)
  case atStart => exact ⟨0, by omega, rfl, Below.refl _ _⟩
  case round =>
    obtain ⟨k, hk, rfl, HX⟩ := hrel
    by_cases hlt : k < 2000
    · have hlt2 : (k : Int) < 2000 := by omega
      have hwf := i64_wf (z := (k : Int)) (by omega) (by omega)
      have h1 := nil_look (w := wr) under_int under_bmap (zero_block _) k hwf true
      simp only [if_true] at h1
      have h2 := nil_look (w := wr.alloc (.cells #[.int .i64 0, .int .i64 0] 53)) under_int under_bmap (zero_block _) k hwf true
      simp only [if_true] at h2
      clear hwf
      go_wp2
      refine ⟨⟨k + 1, by omega, by go_num, HX.out.trans ((((Below.refl _ _).alloc (Nat.le_refl _) _).alloc (by simp) _).mono HX.out.size)⟩, ?_⟩
      simp [intOf]; omega
    · obtain rfl : k = 2000 := by omega
      go_wp2
      go_ret
      exact ⟨rfl, HX.out⟩
theorem rsame_any {B B' : Nat} {u v : Value} {r : Option BS} {w : World} (hu : BlkV w B u r) (hv : BlkV w B' v r) : Calls Try.prog 10 #[u, v] w fun e w' => e = .returned (.bool true) ∧ Below w.heap.size w w' := by
  cases r with
  | none => simp only [BlkV] at hu hv; subst hu; subst hv; exact rsame_nil w
  | some s =>
    obtain ⟨ma, rfl, _, ha⟩ := hu
    obtain ⟨mb, rfl, _, hb⟩ := hv
    exact rsame_map ma mb s.n s.f w ha hb
end Go.Proofs.Ytfmncljcogijhaa
