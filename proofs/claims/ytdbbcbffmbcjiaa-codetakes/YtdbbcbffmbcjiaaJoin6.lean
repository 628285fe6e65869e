/- Texts joined: Nums32, CodeSrc, CodeSrc2, CodeSrc3. -/
import Derived.Test.YtdbbcbffmbcjiaaJoin2
import Derived.Test.YtdbbcbffmbcjiaaJoin5
import Derived.Laws.BitsAllLaws
import Derived.Laws.BitsLemmas
/- Slices of numbers of 32 bits: what the walks lean on. No function of the program. -/
namespace Go.Proofs.Ytdbbcbffmbcjiaa
open Go.RowKit
set_option maxRecDepth 100000
set_option linter.unusedVariables false

theorem under_nums32 : Try.prog.underlying 41 = some (.slice 39) := Try.underlying41
theorem num32_info : (Try.prog.info? 39).map (fun i => (i.zero, i.size, i.bytes)) = some (some (.int .u32 0), 1, 4) := by kernel_rfl
theorem num32_size : (Try.prog.info? 39).map (·.size) = some 1 := by kernel_rfl
def IsU32 (l : List Int) : Prop := ∀ z ∈ l, 0 ≤ z ∧ z < 4294967296
theorem IsU32.nil : IsU32 [] := fun z hz => by simp at hz
theorem IsU32.app {a b : List Int} (ha : IsU32 a) (hb : IsU32 b) : IsU32 (a ++ b) := fun z hz => by
  rcases List.mem_append.1 hz with h | h
  · exact ha z h
  · exact hb z h
theorem IsU32.one {z : Int} (h0 : 0 ≤ z) (h1 : z < 4294967296) : IsU32 [z] := fun y hy => by simp at hy; subst hy; exact ⟨h0, h1⟩
/-- A slice of numbers in a block of the call's own. -/
def OwnQ (w : World) (base : Nat) (v : Value) (l : List Int) : Prop := w.ownsRow base 39 1 v l.length (l.map (Value.int .u32))
/-- Numbers that are read, in blocks of X. -/
def RdQ (X : Nat → Prop) (w : World) (A : Option Addr) (l : List Int) : Prop := IsU32 l ∧ RdV X w A (l.map (Value.int .u32))
section
variable {X : Nat → Prop} {w w' : World} {A : Option Addr} {l : List Int} {B : Nat}
theorem RdQ.chg {S : Nat → Prop} (h : RdQ X w A l) (hc : Chg S w w') (hs : ∀ k, k < w.heap.size → X k → ¬ S k) : RdQ X w' A l := ⟨h.1, h.2.chg hc hs⟩
theorem RdQ.drewN (h : RdQ X w A l) (n : Nat) : RdQ X (w.drewN n) A l := ⟨h.1, h.2.drewN n⟩
theorem RdQ.later (h : RdQ X w A l) (hc : Below w.heap.size w w') : RdQ X w' A l := ⟨h.1, h.2.later hc⟩
theorem RdQ.mono {Y : Nat → Prop} (h : RdQ X w A l) (hx : ∀ k, k < w.heap.size → X k → Y k) : RdQ Y w A l := ⟨h.1, h.2.mono hx⟩
theorem RdQ.nil (X : Nat → Prop) (w : World) (A : Option Addr) : RdQ X w A [] := ⟨IsU32.nil, RdV.nil _ _ _⟩
theorem map_u32_get {j : Nat} (hj : j < l.length) : (l.map (Value.int .u32))[j]? = some (.int .u32 (l.getD j 0)) := by
  simp [List.getElem?_eq_getElem hj, List.getD_eq_getElem?_getD]
theorem RdQ.at_ (h : RdQ X w A l) {j : Nat} (hj : j < l.length) : ∃ b o, A = some ⟨b, o, none⟩ ∧ w.cell? ⟨b, o + j, none⟩ = some (.int .u32 (l.getD j 0)) ∧ 0 ≤ l.getD j 0 ∧ l.getD j 0 < 4294967296 := by
  obtain ⟨b, o, hA, hX, hlt, hc⟩ := h.2.spot (by simp; omega)
  refine ⟨b, o, hA, hc j _ (map_u32_get hj), h.1 _ ?_⟩
  rw [List.getD_eq_getElem?_getD, List.getElem?_eq_getElem hj]; exact List.getElem_mem hj
end
theorem OwnQ.nil (w : World) (base : Nat) : OwnQ w base (.slice none 0 0) [] := World.ownsRow_nil w base _ _
theorem OwnQ.rdQ {w : World} {base : Nat} {v : Value} {l : List Int} (h : OwnQ w base v l) (hl : IsU32 l) : ∃ A c, v = .slice A l.length c ∧ l.length ≤ c ∧ c ≤ maxLen ∧ RdQ (fun k => v.ownBlock = some k) w A l := by
  obtain ⟨A, c, h1, h2, h3, h4⟩ := RdV.of_own h
  exact ⟨A, c, h1, h2, h3, hl, h4⟩
theorem OwnQ.chg {S : Nat → Prop} {w w' : World} {base : Nat} {v : Value} {l : List Int} (h : OwnQ w base v l) (hc : Chg S w w') (hg : ∀ g, v.ownBlock = some g → ¬ S g) : OwnQ w' base v l := owns_chg h hc hg
theorem OwnQ.later {w w' : World} {base : Nat} {v : Value} {l : List Int} (h : OwnQ w base v l) (hb : Below w.heap.size w w') : OwnQ w' base v l := h.chg (S := fun _ => False) (Chg.of_below hb) fun _ _ => id
theorem OwnQ.base {w : World} {base base' : Nat} {v : Value} {l : List Int} (h : OwnQ w base v l) (hb : base' ≤ base) : OwnQ w base' v l := owns_base h hb

/-- The block that was just built for some numbers. -/
theorem rdQ_lit (w : World) (l : List Int) (hl : IsU32 l) : RdQ (fun k => k = w.heap.size) (w.alloc (.cells (l.map (Value.int .u32)).toArray 39)) (some ⟨w.heap.size, 0, none⟩) l := by
  refine ⟨hl, fun j u hu => ⟨_, rfl, by simp, ?_⟩⟩
  have h := (Own.new w 39 (l.map (Value.int .u32))).cell j
  rw [addPlain, Nat.zero_add, h, hu]

/-- append(s, z): one number more, out of the block that was just built for it. -/
theorem wpList_appQ1 {ops : Array Oper} {rest : List Oper} {o : Oper} {a : Act} {Q : Exit → Act → World → Prop} {w : World} (hgd : o.guard = none) (s x : Operand)
    (ho : o.op = .call { callee := .builtin .append, args := #[s, x], argTypes := #[41, 41] }) (base : Nat) (v : Value) (l : List Int) (hs : a.eval s = v) (hown : OwnQ w base v l)
    (z : Int) (hx : a.eval x = .slice (some ⟨w.heap.size, 0, none⟩) 1 1) (hz0 : 0 ≤ z) (hz1 : z < 4294967296) (hlen : l.length + 1 ≤ 1000000000) (hbase : base ≤ w.heap.size)
    (h : ∀ v' w', OwnQ w' base v' (l ++ [z]) → Below base w w' → wpList Try.prog ops Q rest (a.put o.dst v') w') : wpList Try.prog ops Q (o :: rest) a (w.alloc (.cells #[.int .u32 z] 39)) := by
  have hb : Below w.heap.size w (w.alloc (.cells #[.int .u32 z] 39)) := (Below.refl _ _).alloc (Nat.le_refl _) _
  have hr := rdQ_lit w [z] (IsU32.one hz0 hz1)
  have hown' := hown.later hb
  refine wpList_appG under_nums32 num32_info rfl (by omega) hgd s x ho base v l.length _ hs hown' _ 1 1 ([z].map (Value.int .u32)) hx (by simp) hr.2 (fun u hu => by obtain ⟨y, _, rfl⟩ := List.mem_map.1 hu; rfl) (by simp only [maxLen]; omega) (by omega) (by simp; omega) fun v' w' h1 h2 h3 => h v' w' ?_ ?_
  · unfold OwnQ; simpa using h1
  · exact (hb.mono hbase).trans ((Chg.of_grown h2).below (by simp; omega) fun i hi e => by have := owns_ge hown' e.symm; omega)
end Go.Proofs.Ytdbbcbffmbcjiaa

/- code's source: what its calls come to. -/
namespace Go.Proofs.Ytdbbcbffmbcjiaa
open Go.RowKit
set_option maxRecDepth 100000
set_option linter.unusedVariables false

theorem numbers_any (x : Int) (w : World) : Calls Try.prog 83 #[.int .i64 x] w fun e w' => e = .returned (.int .i64 (nums x)) ∧ w = w' := by
  go_enter Try.func83, Try.ntmps83
  go_wp2
  all_goals (go_ret; refine ⟨?_, rfl⟩; simp_all [nums])

def holdS (x : Int) (s : St) : St := if valE x = 0 then s else failS (valE x) s
theorem chold_any (g : Nat) (t : TypeId) (tl : RTl) (s : St) (x : Int) (w : World) (h : RdrAt w g t tl s) (h0 : 0 ≤ x) (h1 : x ≤ 255) :
    Calls Try.prog 97 #[.pointer (some ⟨g, 0, none⟩), .int .u8 x] w (FailPost g t tl (holdS x s) w) := by
  have HV := Lib.hid (value_any 114 (by simp) x w h0 h1)
  by_cases hx : valE x = 0
  · have HH : Hid (RdrAt w g t tl (holdS x s)) := by unfold Hid holdS; rw [if_pos hx]; exact h
    clear h
    go_enter Try.func97, Try.ntmps97
    go_wp2_with fail
    refine HV.out.mono ?_
    unfold valT
    rintro e w' ⟨rfl, rfl⟩
    rw [hx]
    go_wp2
    go_end0
    exact ⟨⟨_, rfl⟩, HH.out, Chg.refl _ _⟩
  · have hp : 0 < valE x ∧ valE x ≤ 100 := by rcases valE_cases x with h | h | h <;> omega
    have HF : Hid (Calls Try.prog 19 #[.pointer (some ⟨g, 0, none⟩), .int .i64 (valE x)] w (FailPost g t tl (holdS x s) w)) := by
      unfold Hid holdS; rw [if_neg hx]; exact rfail_any g t tl s (valE x) w h hp.1 hp.2
    clear h
    have hne : (valE x != 0) = true := by simpa using hx
    have hdc : decide (valE x = 0) = false := by simpa using hx
    go_enter Try.func97, Try.ntmps97
    go_wp2_with fail
    refine HV.out.mono ?_
    unfold valT
    rintro e w' ⟨rfl, rfl⟩
    clear hp
    generalize valE x = y at *
    go_wp2_with fail
    refine HF.out.mono ?_
    rintro e w' ⟨⟨u, rfl⟩, h2, hc⟩
    have HC := Lib.hid (And.intro h2 hc)
    clear h2 hc
    go_wp2
    go_end0
    exact ⟨⟨_, rfl⟩, HC.out.1, HC.out.2⟩

theorem zero_key {s : St} {x : Int} (h3 : ∀ a l', bd s pByte = .ok (a, l') → x = a) :
    (x = 0 → nx pZero s = nx pByte s ∧ ∀ a l', bd s pZero = .ok (a, l') → 0 = a) ∧ (x ≠ 0 → nx pZero s = failS 2 (nx pByte s) ∧ ∀ a l', bd s pZero ≠ .ok (a, l')) := by
  cases s with
  | error e => exact ⟨fun _ => ⟨rfl, fun a l' h => by cases h⟩, fun _ => ⟨rfl, fun a l' h => by cases h⟩⟩
  | ok l =>
    simp only [nx_ok, bd_ok, pZero, seq] at h3 ⊢
    cases hp : pByte l with
    | error e => simp [failS]
    | ok r =>
      have := h3 r.1 r.2 (by rw [hp])
      subst this
      refine ⟨fun hx => ?_, fun hx => ?_⟩
      · simp only [bd_ok, hx, if_true]; exact ⟨trivial, fun a l' h => by injection h with h; injection h⟩
      · simp [hx, failS]
set_option maxHeartbeats 1000000 in
theorem cname_any (g : Nat) (t : TypeId) (tl : RTl) (s : St) (op place : Int) (w : World) (h : RdrAt w g t tl s) :
    Calls Try.prog 57 #[.pointer (some ⟨g, 0, none⟩), .int .i64 op, .int .i64 place] w (RPost .u32 4294967295 (pNm op place) g t tl s w) := by
  have HH := Lib.hid h
  clear h
  have HN := Lib.hid (numbers_any op w)
  unfold pNm
  by_cases hp : place < nums op
  · have HU := Lib.hid (rU32_any g t tl s w HH.out)
    rw [if_pos hp]
    generalize nums op = y at *
    go_enter Try.func57, Try.ntmps57
    go_wp2_with (go_at_call 83; refine HN.out.mono ?_; rintro e w' ⟨rfl, rfl⟩)
    refine HU.out.mono ?_
    rintro e w' ⟨x, rfl, h0, h1, h2⟩
    have H2 := Lib.hid h2
    clear h2
    go_wp2
    go_ret
    exact ⟨x, rfl, h0, h1, H2.out⟩
  · have HU := Lib.hid (rbyte_any g t tl s w HH.out)
    rw [if_neg hp]
    generalize nums op = y at *
    go_enter Try.func57, Try.ntmps57
    go_wp2_with (go_at_call 83; refine HN.out.mono ?_; rintro e w' ⟨rfl, rfl⟩)
    refine HU.out.mono ?_
    rintro e w' ⟨x, rfl, h0, h1, h2, h3, h4⟩
    have HK := Lib.hid (zero_key h3)
    have H2 := Lib.hid (And.intro h2 h4)
    clear h2 h3 h4
    by_cases hx : x = 0
    · subst hx
      go_wp2
      go_ret
      have k := HK.out.1 (by simp)
      exact ⟨0, rfl, by omega, by omega, by rw [k.1]; exact H2.out.1, k.2, H2.out.2⟩
    · have hne : (x != 0) = true := by simpa using hx
      have HF := Lib.hid (rfail_any g t tl _ 2 w' H2.out.1 (by omega) (by omega))
      have HX := Lib.hid hx
      clear hx
      go_wp2_with fail
      refine HF.out.mono ?_
      rintro e w2 ⟨⟨u, rfl⟩, h2, hc⟩
      have HC := Lib.hid (And.intro h2 hc)
      clear h2 hc
      go_wp2
      go_ret
      have k := HK.out.2 HX.out
      exact ⟨0, rfl, by omega, by omega, by rw [k.1]; exact HC.out.1, fun a l' h => (k.2 a l' h).elim, H2.out.2.trans HC.out.2 fun k _ e => e⟩

theorem al_key {s : St} {x : Int} (h3 : ∀ a l', bd s (pU 32) = .ok (a, l') → x = a) :
    (¬ 31 < x → nx pAl s = nx (pU 32) s ∧ ∀ a l', bd s pAl = .ok (a, l') → x = a) ∧ (31 < x → nx pAl s = failS 2 (nx (pU 32) s) ∧ ∀ a l', bd s pAl ≠ .ok (a, l')) := by
  cases s with
  | error e => exact ⟨fun _ => ⟨rfl, fun a l' h => by cases h⟩, fun _ => ⟨rfl, fun a l' h => by cases h⟩⟩
  | ok l =>
    simp only [nx_ok, bd_ok, pAl, seq] at h3 ⊢
    cases hp : pU 32 l with
    | error e => simp [failS]
    | ok r =>
      have := h3 r.1 r.2 (by rw [hp])
      subst this
      refine ⟨fun hx => ?_, fun hx => ?_⟩
      · simp only [bd_ok]; rw [if_neg hx]; exact ⟨rfl, fun a l' h => by injection h with h; injection h⟩
      · simp [hx, failS]
theorem calign_any (g : Nat) (t : TypeId) (tl : RTl) (s : St) (w : World) (h : RdrAt w g t tl s) :
    Calls Try.prog 60 #[.pointer (some ⟨g, 0, none⟩)] w (RPost .u32 4294967295 pAl g t tl s w) := by
  have HU := Lib.hid (rU32_any g t tl s w h)
  clear h
  go_enter Try.func60, Try.ntmps60
  go_wp2_with fail
  refine HU.out.mono ?_
  rintro e w' ⟨x, rfl, h0, h1, h2, h3, h4⟩
  have HK := Lib.hid (al_key h3)
  have H2 := Lib.hid (And.intro h2 h4)
  clear h2 h3 h4
  by_cases hx : 31 < x
  · have HF := Lib.hid (rfail_any g t tl _ 2 w' H2.out.1 (by omega) (by omega))
    go_wp2_with fail
    refine HF.out.mono ?_
    rintro e w2 ⟨⟨u, rfl⟩, h2, hc⟩
    have HC := Lib.hid (And.intro h2 hc)
    clear h2 hc
    go_wp2
    go_ret
    have k := HK.out.2 hx
    exact ⟨x, rfl, h0, h1, by rw [k.1]; exact HC.out.1, fun a l' h => (k.2 a l' h).elim, H2.out.2.trans HC.out.2 fun k _ e => e⟩
  · go_wp2
    go_ret
    have k := HK.out.1 hx
    exact ⟨x, rfl, h0, h1, by rw [k.1]; exact H2.out.1, k.2, H2.out.2⟩
end Go.Proofs.Ytdbbcbffmbcjiaa

/- code's source: blocks' types, labels, types, numbers of instructions. -/
namespace Go.Proofs.Ytdbbcbffmbcjiaa
open Go.RowKit
set_option maxRecDepth 100000
set_option linter.unusedVariables false

theorem and127c (x : Int) : Go.bits .and .u8 (x % 256) 127 = x % 128 := by
  have h : 0 ≤ x % 256 ∧ x % 256 < 256 ∧ x % 256 % 128 = x % 128 := by omega
  exact (Go.bits_mask .u8 8 (by decide) Go.wraps_u8 7 (by decide) _ h.1 h.2.1).trans h.2.2
theorem RdrAt.lenS_le {w : World} {g : Nat} {t : TypeId} {tl : RTl} {s : St} (h : RdrAt w g t tl s) : lenS s ≤ 1000000 := by
  cases s with
  | error e => simp [lenS]
  | ok l => obtain ⟨A, c, r, h1, hr, hlc, hcm, hlm, -⟩ := h; exact hlm

theorem bl_key {s : St} {x : Int} (h3 : ∀ a l', bd s (pS 33) = .ok (a, l') → x = a) :
    (0 ≤ x → nx pBl s = nx (pS 33) s ∧ ∀ a l', bd s pBl = .ok (a, l') → x = a) ∧
    (¬ 0 ≤ x → 1 < (lenS s : Int) - lenS (nx (pS 33) s) → nx pBl s = failS 2 (nx (pS 33) s) ∧ ∀ a l', bd s pBl = .ok (a, l') → x = a) ∧
    (¬ 0 ≤ x → ¬ 1 < (lenS s : Int) - lenS (nx (pS 33) s) → x = -64 → nx pBl s = nx (pS 33) s ∧ ∀ a l', bd s pBl = .ok (a, l') → x = a) ∧
    (¬ 0 ≤ x → ¬ 1 < (lenS s : Int) - lenS (nx (pS 33) s) → x ≠ -64 → nx pBl s = holdS (x % 128) (nx (pS 33) s) ∧ ∀ a l', bd s pBl = .ok (a, l') → x = a) := by
  have hv : ∀ a l', bd s pBl = .ok (a, l') → x = a := fun a l' h => by
    cases s with
    | error e => cases h
    | ok l =>
      simp only [bd_ok, pBl] at h h3
      cases hp : pS 33 l with
      | error e => rw [hp] at h; cases h
      | ok r =>
        rw [hp] at h
        have e := h3 r.1 r.2 (by rw [hp])
        simp only [bd_ok] at h
        split at h
        · injection h with h; subst h; exact e
        · split at h
          · cases h
          · split at h
            · injection h with h; subst h; exact e
            · split at h
              · injection h with h; subst h; exact e
              · cases h
  refine ⟨fun h1 => ⟨?_, hv⟩, fun h1 h2 => ⟨?_, hv⟩, fun h1 h2 h4 => ⟨?_, hv⟩, fun h1 h2 h4 => ⟨?_, hv⟩⟩
  all_goals
    cases s with
    | error e => first | rfl | (simp [holdS, failS])
    | ok l =>
      simp only [nx_ok, bd_ok, pBl] at h3 ⊢
      cases hp : pS 33 l with
      | error e => first | rfl | (simp [holdS, failS])
      | ok r =>
        have := h3 r.1 r.2 (by rw [hp])
        subst this
        simp only [nx_ok, hp, bd_ok, lenS] at *
        first
          | (rw [if_pos h1]; rfl)
          | (rw [if_neg h1, if_pos (by omega)]; rfl)
          | (rw [if_neg h1, if_neg (by omega), if_pos h4]; rfl)
          | (rw [if_neg h1, if_neg (by omega), if_neg h4]; unfold holdS; split <;> simp_all [failS])
/-- An int that was read. -/
def IPostB (p : PR Int) (g : Nat) (t : TypeId) (tl : RTl) (s : St) (w : World) (e : Ending) (w' : World) : Prop :=
  ∃ x, e = .returned (.int .i64 x) ∧ -9223372036854775808 ≤ x ∧ x ≤ 9223372036854775807 ∧ RdrAt w' g t tl (nx p s) ∧ (∀ a l', bd s p = .ok (a, l') → x = a) ∧ Chg (fun k => k = g) w w'
set_option maxHeartbeats 1000000 in
theorem cblock_any (g : Nat) (t : TypeId) (tl : RTl) (s : St) (w : World) (h : RdrAt w g t tl s) :
    Calls Try.prog 61 #[.pointer (some ⟨g, 0, none⟩)] w (IPostB pBl g t tl s w) := by
  have HL := Lib.hid (rleft_any g t tl s w h)
  have HU := Lib.hid (rS33_any g t tl s w h)
  have hlm := h.lenS_le
  clear h
  go_enter Try.func61, Try.ntmps61
  go_wp2_with fail
  refine HL.out.mono ?_
  rintro e w' ⟨rfl, rfl⟩
  go_wp2_with fail
  refine HU.out.mono ?_
  rintro e w1 ⟨x, rfl, h0, h1, h2, h3, h4⟩
  have HK := Lib.hid (bl_key h3)
  have H2 := Lib.hid (And.intro h2 h4)
  clear h2 h3 h4
  by_cases hx : 0 ≤ x
  · clear HL HU
    generalize lenS s = q at *
    go_wp2
    go_ret
    have k := HK.out.1 (by first | exact hx | simp)
    exact ⟨x, rfl, h0, h1, by rw [k.1]; exact H2.out.1, k.2, H2.out.2⟩
  · have HL2 := Lib.hid (rleft_any g t tl _ w1 H2.out.1)
    have hlm2 := H2.out.1.lenS_le
    have hw : wrap64 ((lenS s : Int) - lenS (nx (pS 33) s)) = (lenS s : Int) - lenS (nx (pS 33) s) := by unfold wrap64; omega
    have HX := Lib.hid hx
    have hx' : x < 0 := by omega
    clear hx
    by_cases hd : 1 < (lenS s : Int) - lenS (nx (pS 33) s)
    · have HF := Lib.hid (rfail_any g t tl _ 2 w1 H2.out.1 (by omega) (by omega))
      have HD := Lib.hid hd
      generalize lenS s = q at *
      generalize lenS (nx (pS 33) s) = q2 at *
      go_wp2_with (go_at_call 88; refine HL2.out.mono ?_; rintro e w' ⟨rfl, rfl⟩)
      refine HF.out.mono ?_
      rintro e w2 ⟨⟨u, rfl⟩, h2, hc⟩
      have HC := Lib.hid (And.intro h2 hc)
      clear h2 hc
      go_wp2
      go_ret
      have k := HK.out.2.1 HX.out HD.out
      exact ⟨x, rfl, h0, h1, by rw [k.1]; exact HC.out.1, k.2, H2.out.2.trans HC.out.2 fun k _ e => e⟩
    · have HD := Lib.hid hd
      by_cases h64 : x = -64
      · subst h64
        generalize lenS s = q at *
        generalize lenS (nx (pS 33) s) = q2 at *
        go_wp2_with (go_at_call 88; refine HL2.out.mono ?_; rintro e w' ⟨rfl, rfl⟩)
        go_ret
        have k := HK.out.2.2.1 HX.out HD.out (by simp)
        exact ⟨-64, rfl, h0, h1, by rw [k.1]; exact H2.out.1, k.2, H2.out.2⟩
      · have hne : (x != -64) = true := by simpa using h64
        have H6 := Lib.hid h64
        have hbt := and127c x
        have HO := Lib.hid (chold_any g t tl _ (x % 128) w1 H2.out.1 (by omega) (by omega))
        clear h64
        generalize lenS s = q at *
        generalize lenS (nx (pS 33) s) = q2 at *
        go_wp2_with (go_at_call 88; refine HL2.out.mono ?_; rintro e w' ⟨rfl, rfl⟩)
        refine HO.out.mono ?_
        rintro e w2 ⟨⟨u, rfl⟩, h2, hc⟩
        have HC := Lib.hid (And.intro h2 hc)
        clear h2 hc
        go_wp2
        go_ret
        have k := HK.out.2.2.2 HX.out HD.out H6.out
        exact ⟨x, rfl, h0, h1, by rw [k.1]; exact HC.out.1, k.2, H2.out.2.trans HC.out.2 fun k _ e => e⟩
end Go.Proofs.Ytdbbcbffmbcjiaa

/- code's source: labels, types, numbers of instructions. -/
namespace Go.Proofs.Ytdbbcbffmbcjiaa
open Go.RowKit
set_option maxRecDepth 100000
set_option linter.unusedVariables false

/-- Numbers of 32 bits that were read, into new memory. -/
def QPost (p : PR (List Int)) (g : Nat) (t : TypeId) (tl : RTl) (s : St) (w : World) (e : Ending) (w' : World) : Prop :=
  ∃ v y, e = .returned v ∧ OwnQ w' w.heap.size v y ∧ IsU32 y ∧ RdrAt w' g t tl (nx p s) ∧ (∀ a l', bd s p = .ok (a, l') → y = a) ∧ Chg (fun k => k = g) w w' ∧ y.length ≤ 1000
set_option maxHeartbeats 1000000 in
theorem clabels_any (g : Nat) (t : TypeId) (tl : RTl) (s : St) (w : World) (h : RdrAt w g t tl s) :
    Calls Try.prog 62 #[.pointer (some ⟨g, 0, none⟩)] w (QPost pLabels g t tl s w) := by
  have HH := Lib.hid h
  have hgw := h.lt
  clear h
  go_enter Try.func62, Try.ntmps62
  go_wp2_with fail
  refine (rcount_any g t tl s 600 w HH.out (by omega) (by omega)).mono ?_
  rintro e w1 ⟨x, rfl, h0, h1, h2, h3, h4⟩
  obtain ⟨n, rfl⟩ : ∃ n : Nat, x = n := ⟨x.toNat, by omega⟩
  have hs1 := h4.size
  have H2 := Lib.hid (And.intro h2 (And.intro h3 h4))
  clear h2 h3 h4
  go_wp2
  go_loopw [2, 7] (fun v i wr => ∃ (y : List Int) (k : Nat) (sk : St), k ≤ n ∧ i = .int .i64 k ∧ y.length = k ∧ w.heap.size ≤ wr.heap.size ∧ Hid (RdrAt wr g t tl sk ∧ OwnQ wr w.heap.size v y ∧ IsU32 y ∧ bd (nx (pCount 600) s) (pLb n []) = bd sk (pLb (n - k) y) ∧ Chg (fun k => k = g) w wr)) (fun _ i _ => n - (intOf i).toNat)
  case atStart => exact ⟨[], 0, _, by omega, rfl, rfl, hs1, H2.out.1, OwnQ.nil _ _, IsU32.nil, by simp, H2.out.2.2⟩
  case round =>
    obtain ⟨y, k, sk, hk, rfl, hyk, hsz, HX⟩ := hrel
    have HYK := Lib.hid hyk
    clear hyk
    by_cases hlt : k < n
    · have hlt2 : (k : Int) < n := by omega
      go_wp2_with fail
      refine (rU32_any g t tl sk wr HX.out.1).mono ?_
      rintro e w2 ⟨z, rfl, z0, z1, h2, h3, h4⟩
      have hs2 := h4.size
      have H3 : Hid (RdrAt w2 g t tl (nx (pU 32) sk) ∧ OwnQ w2 w.heap.size u2 y ∧ IsU32 (y ++ [z]) ∧ bd (nx (pCount 600) s) (pLb n []) = bd (nx (pU 32) sk) (pLb (n - (k + 1)) (y ++ [z])) ∧ Chg (fun k => k = g) w w2) := by
        obtain ⟨q1, q2, q3, q4, q5⟩ := HX.out
        refine ⟨h2, q2.chg h4 fun i hi e => ?_, q3.app (IsU32.one z0 (by omega)), ?_, q5.trans h4 fun k _ e => e⟩
        · have := owns_ge q2 hi; omega
        · rw [q4, show n - k = n - (k + 1) + 1 from by omega]
          exact (nx_seq (pU 32) (fun x => pLb (n - (k + 1)) (y ++ [x])) sk z h3).2
      clear h2 h3 h4
      go_wp2_with (at_builtin; refine wpList_appQ1 rfl (.tmp 9) (.tmp 14) rfl w.heap.size u2 y rfl H3.out.2.1 z rfl z0 (by omega) (by have := HYK.out; omega) (by omega) ?_; intro v1 w3 hv1 hw1; have HV := Lib.hid (And.intro hv1 hw1); clear hv1 hw1)
      go_wp2
      have hs3 := HV.out.2.size
      refine ⟨⟨y ++ [z], k + 1, _, by omega, by go_num, by have := HYK.out; simp; omega, by omega, H3.out.1.below HV.out.2 hgw (by omega), HV.out.1, H3.out.2.2.1, H3.out.2.2.2.1, ?_⟩, ?_⟩
      · exact H3.out.2.2.2.2.trans ⟨HV.out.2.os, HV.out.2.tape, HV.out.2.output, HV.out.2.size, fun i hi hn => HV.out.2.block i (by exact Nat.lt_of_not_le hn)⟩ fun i hi e => by omega
      · simp [intOf]; omega
    · obtain rfl : k = n := by omega
      go_wp2
      go_ret
      obtain ⟨q1, q2, q3, q4, q5⟩ := HX.out
      have e0 : pLb (k - k) y = fun l => .ok (y, l) := by rw [Nat.sub_self]; rfl
      rw [e0] at q4
      obtain ⟨k1, k2⟩ := nx_seq (pCount 600) (fun n => pLb n.toNat []) s (k : Int) H2.out.2.1
      rw [Int.toNat_natCast] at k1 k2
      refine ⟨_, y, rfl, q2, q3, ?_, (fun a l' h => ?_), q5, by have := HYK.out; omega⟩
      · unfold pLabels; rw [k1, nx, q4]; cases sk <;> exact q1
      · unfold pLabels at h
        rw [k2, q4] at h
        cases sk with
        | error e => cases h
        | ok l => injection h with h; injection h

theorem cref_any (F : Nat) (hF : F = 99 ∨ F = 71) (x : Int) (w : World) :
    Calls Try.prog F #[.int .u8 x] w fun e w' => e = .returned (.bool (decide (x = 112 ∨ x = 111))) ∧ w = w' := by
  have key : x = 112 ∨ x = 111 ∨ ((x == 112) = false ∧ (x == 111) = false ∧ decide (x = 112 ∨ x = 111) = false) := by
    by_cases a1 : x = 112
    · exact .inl a1
    by_cases a2 : x = 111
    · exact .inr (.inl a2)
    exact .inr (.inr ⟨by simpa using a1, by simpa using a2, by simp [a1, a2]⟩)
  rcases hF with rfl | rfl
  · rcases key with rfl | rfl | ⟨e1, e2, hv⟩
    all_goals (go_enter Try.func99, Try.ntmps99; go_wp2; go_ret)
    · exact ⟨rfl, rfl⟩
    · exact ⟨rfl, rfl⟩
    · rw [hv]; exact ⟨rfl, rfl⟩
  · rcases key with rfl | rfl | ⟨e1, e2, hv⟩
    all_goals (go_enter Try.func71, Try.ntmps71; go_wp2; go_ret)
    · exact ⟨rfl, rfl⟩
    · exact ⟨rfl, rfl⟩
    · rw [hv]; exact ⟨rfl, rfl⟩

theorem ty28_key {s : St} {n x : Int} {s1 s2 : St} (h1 : ∀ a l', bd s (pU 32) = .ok (a, l') → n = a) (e1 : s1 = if n = 1 then nx (pU 32) s else failS 2 (nx (pU 32) s)) (h2 : ∀ a l', bd s1 pByte = .ok (a, l') → x = a) (e2 : s2 = holdS x (nx pByte s1)) :
    nx (pTy 28) s = s2 ∧ ∀ a l', bd s (pTy 28) = .ok (a, l') → x = a := by
  subst e1 e2
  unfold pTy
  rw [if_pos rfl]
  cases s with
  | error e => simp [holdS, failS]
  | ok l =>
    simp only [nx_ok, bd_ok, seq] at h1 h2 ⊢
    cases hp : pU 32 l with
    | error e => simp [holdS, failS]
    | ok r =>
      have := h1 r.1 r.2 (by rw [hp])
      subst this
      rw [hp] at h2
      simp only [bd_ok] at h2 ⊢
      by_cases hn : r.1 = 1
      · simp only [hn, if_true, bd_ok, nx_ok] at h2 ⊢
        unfold pVal
        simp only [seq]
        cases hb : pByte r.2 with
        | error e => simp [holdS, failS]
        | ok q =>
          have := h2 q.1 q.2 (by rw [hb])
          subst this
          by_cases hv : valE q.1 = 0
          · simp only [bd_ok, hv, holdS, if_true]; exact ⟨trivial, fun a l' h => by injection h with h; injection h⟩
          · simp [holdS, hv, failS]
      · simp [hn, failS, holdS]
theorem ty_key {s : St} {op x : Int} {s2 : St} (ho : op ≠ 28) (h1 : ∀ a l', bd s pByte = .ok (a, l') → x = a) (e2 : s2 = if x = 112 ∨ x = 111 then holdS x (nx pByte s) else failS 2 (holdS x (nx pByte s))) :
    nx (pTy op) s = s2 ∧ ∀ a l', bd s (pTy op) = .ok (a, l') → x = a := by
  subst e2
  unfold pTy
  rw [if_neg ho]
  cases s with
  | error e => simp [holdS, failS]
  | ok l =>
    simp only [nx_ok, bd_ok, seq, pVal] at h1 ⊢
    cases hp : pByte l with
    | error e => simp [holdS, failS]
    | ok r =>
      have := h1 r.1 r.2 (by rw [hp])
      subst this
      simp only [bd_ok]
      by_cases hv : valE r.1 = 0
      · simp only [bd_ok, hv, if_true, holdS]
        by_cases hr : r.1 = 112 ∨ r.1 = 111
        · simp only [if_pos hr, bd_ok]; exact ⟨trivial, fun a l' h => by injection h with h; injection h⟩
        · simp [if_neg hr, failS]
      · simp [holdS, hv, failS]
set_option maxHeartbeats 1000000 in
theorem ctype_any (g : Nat) (t : TypeId) (tl : RTl) (s : St) (op : Int) (w : World) (h : RdrAt w g t tl s) :
    Calls Try.prog 63 #[.pointer (some ⟨g, 0, none⟩), .int .i64 op] w (RPost .u32 4294967295 (pTy op) g t tl s w) := by
  by_cases ho : op = 28
  · subst ho
    have HU := Lib.hid (rU32_any g t tl s w h)
    clear h
    go_enter Try.func63, Try.ntmps63
    go_wp2_with fail
    refine HU.out.mono ?_
    rintro e w1 ⟨n, rfl, h0, h1, h2, h3, h4⟩
    have H2 := Lib.hid (And.intro h2 (And.intro h3 h4))
    clear h2 h3 h4 HU
    by_cases hn : n = 1
    · subst hn
      have HB := Lib.hid (rbyte_any g t tl _ w1 H2.out.1)
      go_wp2_with fail
      refine HB.out.mono ?_
      rintro e w2 ⟨x, rfl, x0, x1, h2, h3, h4⟩
      have H3 := Lib.hid (And.intro h2 (And.intro h3 h4))
      have HO := Lib.hid (chold_any g t tl _ x w2 h2 x0 x1)
      clear h2 h3 h4 HB
      go_wp2_with fail
      refine HO.out.mono ?_
      rintro e w3 ⟨⟨u, rfl⟩, h2, hc⟩
      have HC := Lib.hid (And.intro h2 hc)
      clear h2 hc
      go_wp2
      go_ret
      have k := ty28_key (s2 := holdS x (nx pByte (nx (pU 32) s))) H2.out.2.1 (s1 := nx (pU 32) s) (by simp) H3.out.2.1 rfl
      exact ⟨x, rfl, x0, by omega, by rw [k.1]; exact HC.out.1, k.2, (H2.out.2.2.trans H3.out.2.2 fun k _ e => e).trans HC.out.2 fun k _ e => e⟩
    · have hne : (n != 1) = true := by simpa using hn
      have HN := Lib.hid hn
      have HF := Lib.hid (rfail_any g t tl _ 2 w1 H2.out.1 (by omega) (by omega))
      clear hn
      go_wp2_with fail
      refine HF.out.mono ?_
      rintro e w4 ⟨⟨u, rfl⟩, h2, hc⟩
      have HC4 := Lib.hid (And.intro h2 hc)
      clear h2 hc
      have HB := Lib.hid (rbyte_any g t tl _ w4 HC4.out.1)
      go_wp2_with fail
      refine HB.out.mono ?_
      rintro e w2 ⟨x, rfl, x0, x1, h2, h3, h4⟩
      have H3 := Lib.hid (And.intro h2 (And.intro h3 h4))
      have HO := Lib.hid (chold_any g t tl _ x w2 h2 x0 x1)
      clear h2 h3 h4 HB
      go_wp2_with fail
      refine HO.out.mono ?_
      rintro e w3 ⟨⟨u, rfl⟩, h2, hc⟩
      have HC := Lib.hid (And.intro h2 hc)
      clear h2 hc
      go_wp2
      go_ret
      have k := ty28_key (s2 := holdS x (nx pByte (failS 2 (nx (pU 32) s)))) H2.out.2.1 (s1 := failS 2 (nx (pU 32) s)) (by rw [if_neg HN.out]) H3.out.2.1 rfl
      exact ⟨x, rfl, x0, by omega, by rw [k.1]; exact HC.out.1, k.2, ((H2.out.2.2.trans HC4.out.2 fun k _ e => e).trans H3.out.2.2 fun k _ e => e).trans HC.out.2 fun k _ e => e⟩
  · have hne : (op == 28) = false := by simpa using ho
    have hne2 : (op != 28) = true := by simpa using ho
    have HB := Lib.hid (rbyte_any g t tl s w h)
    have HN := Lib.hid ho
    clear h ho
    go_enter Try.func63, Try.ntmps63
    go_wp2_with fail
    refine HB.out.mono ?_
    rintro e w2 ⟨x, rfl, x0, x1, h2, h3, h4⟩
    have H3 := Lib.hid (And.intro h2 (And.intro h3 h4))
    have HO := Lib.hid (chold_any g t tl _ x w2 h2 x0 x1)
    clear h2 h3 h4 HB
    go_wp2_with fail
    refine HO.out.mono ?_
    rintro e w3 ⟨⟨u, rfl⟩, h2, hc⟩
    have HC := Lib.hid (And.intro h2 hc)
    clear h2 hc
    have HR := Lib.hid (cref_any 99 (by simp) x w3)
    by_cases hr : x = 112 ∨ x = 111
    · have hrd : decide (x = 112 ∨ x = 111) = true := by simpa using hr
      have HRR := Lib.hid hr
      clear hr
      go_wp2_with (go_at_call 99; refine HR.out.mono ?_; rw [hrd]; rintro e w' ⟨rfl, rfl⟩)
      go_ret
      have k := ty_key (s2 := holdS x (nx pByte s)) HN.out H3.out.2.1 (by rw [if_pos HRR.out])
      exact ⟨x, rfl, x0, by omega, by rw [k.1]; exact HC.out.1, k.2, H3.out.2.2.trans HC.out.2 fun k _ e => e⟩
    · have hrd : decide (x = 112 ∨ x = 111) = false := by simpa using hr
      have HRR := Lib.hid hr
      clear hr
      have HF := Lib.hid (rfail_any g t tl _ 2 w3 HC.out.1 (by omega) (by omega))
      go_wp2_with (go_at_call 99; refine HR.out.mono ?_; rw [hrd]; rintro e w' ⟨rfl, rfl⟩)
      refine HF.out.mono ?_
      rintro e w4 ⟨⟨u, rfl⟩, h2, hc⟩
      have HC4 := Lib.hid (And.intro h2 hc)
      clear h2 hc
      go_wp2
      go_ret
      have k := ty_key (s2 := failS 2 (holdS x (nx pByte s))) HN.out H3.out.2.1 (by rw [if_neg HRR.out])
      exact ⟨x, rfl, x0, by omega, by rw [k.1]; exact HC4.out.1, k.2, (H3.out.2.2.trans HC.out.2 fun k _ e => e).trans HC4.out.2 fun k _ e => e⟩

theorem op_one {s : St} {b : Int} (hb : b ≠ 252) (h1 : ∀ a l', bd s pByte = .ok (a, l') → b = a) : nx pOp s = nx pByte s ∧ ∀ a l', bd s pOp = .ok (a, l') → b = a := by
  cases s with
  | error e => exact ⟨rfl, fun a l' h => by cases h⟩
  | ok l =>
    simp only [nx_ok, bd_ok, seq, pOp] at h1 ⊢
    cases hp : pByte l with
    | error e => simp
    | ok r =>
      have := h1 r.1 r.2 (by rw [hp])
      subst this
      simp only [bd_ok, if_neg hb]; exact ⟨trivial, fun a l' h => by injection h with h; injection h⟩
theorem op_two {s : St} {n : Int} (h0 : ∀ a l', bd s pByte = .ok (a, l') → 252 = a) (h1 : ∀ a l', bd (nx pByte s) (pU 32) = .ok (a, l') → n = a) :
    (¬ 255 < n → nx pOp s = nx (pU 32) (nx pByte s) ∧ ∀ a l', bd s pOp = .ok (a, l') → 64512 + n = a) ∧ (255 < n → nx pOp s = failS 2 (nx (pU 32) (nx pByte s)) ∧ ∀ a l', bd s pOp ≠ .ok (a, l')) := by
  cases s with
  | error e => exact ⟨fun _ => ⟨rfl, fun a l' h => by cases h⟩, fun _ => ⟨rfl, fun a l' h => by cases h⟩⟩
  | ok l =>
    simp only [nx_ok, bd_ok, seq, pOp] at h0 h1 ⊢
    cases hp : pByte l with
    | error e => simp [failS]
    | ok r =>
      have := h0 r.1 r.2 (by rw [hp])
      rw [hp] at h1
      simp only [bd_ok, if_pos this.symm, nx_ok] at h1 ⊢
      simp only [seq]
      cases hq : pU 32 r.2 with
      | error e => simp [failS]
      | ok q =>
        have := h1 q.1 q.2 (by rw [hq])
        subst this
        refine ⟨fun hx => ?_, fun hx => ?_⟩
        · simp only [bd_ok]; rw [if_neg hx]; exact ⟨rfl, fun a l' h => by injection h with h; injection h⟩
        · simp [hx, failS]
set_option maxHeartbeats 1000000 in
theorem cop_any (g : Nat) (t : TypeId) (tl : RTl) (s : St) (w : World) (h : RdrAt w g t tl s) :
    Calls Try.prog 33 #[.pointer (some ⟨g, 0, none⟩)] w (RPost .i64 64767 pOp g t tl s w) := by
  have HB := Lib.hid (rbyte_any g t tl s w h)
  clear h
  go_enter Try.func33, Try.ntmps33
  go_wp2_with fail
  refine HB.out.mono ?_
  rintro e w1 ⟨b, rfl, b0, b1, h2, h3, h4⟩
  have H2 := Lib.hid (And.intro h2 (And.intro h3 h4))
  clear h2 h3 h4 HB
  by_cases hb : b = 252
  · subst hb
    have HU := Lib.hid (rU32_any g t tl _ w1 H2.out.1)
    go_wp2_with fail
    refine HU.out.mono ?_
    rintro e w2 ⟨n, rfl, n0, n1, h2, h3, h4⟩
    have H3 := Lib.hid (And.intro h2 (And.intro h3 h4))
    have HK := Lib.hid (op_two H2.out.2.1 h3)
    clear h2 h3 h4 HU
    by_cases hn : 255 < n
    · have HF := Lib.hid (rfail_any g t tl _ 2 w2 H3.out.1 (by omega) (by omega))
      go_wp2_with fail
      refine HF.out.mono ?_
      rintro e w4 ⟨⟨u, rfl⟩, h2, hc⟩
      have HC4 := Lib.hid (And.intro h2 hc)
      clear h2 hc
      go_wp2
      go_ret
      have k := HK.out.2 hn
      exact ⟨0, rfl, by omega, by omega, by rw [k.1]; exact HC4.out.1, fun a l' h => (k.2 a l' h).elim, (H2.out.2.2.trans H3.out.2.2 fun k _ e => e).trans HC4.out.2 fun k _ e => e⟩
    · go_wp2
      go_ret
      have k := HK.out.1 hn
      exact ⟨64512 + n, rfl, by omega, by omega, by rw [k.1]; exact H3.out.1, k.2, H2.out.2.2.trans H3.out.2.2 fun k _ e => e⟩
  · have hne : (b != 252) = true := by simpa using hb
    have HN := Lib.hid hb
    clear hb
    go_wp2
    go_ret
    have k := op_one HN.out H2.out.2.1
    exact ⟨b, rfl, by omega, by omega, by rw [k.1]; exact H2.out.1, k.2, H2.out.2.2⟩
end Go.Proofs.Ytdbbcbffmbcjiaa
