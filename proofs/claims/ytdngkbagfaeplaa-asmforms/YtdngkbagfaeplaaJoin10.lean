/- Texts joined: AsmSrc1, AsmList, AsmSrc2, AsmSrc3, AsmReg. -/
import Derived.Test.YtdngkbagfaeplaaJoin9
import Derived.Deep.RegionHeld3
import Derived.Deep.RegionWith
import Derived.Deep.RegionHeld
import Derived.Great.BuildSlice
import Derived.Lib.SmallJoins
/- asm: its small parts. -/
namespace Go.Proofs.Ytdngkbagfaeplaa
open Go.RowKit
set_option maxRecDepth 100000
set_option linter.unusedVariables false

theorem rowB_lits (w : World) (l : List Int) (hl : l.length ≤ maxLen) : OwnB (w.alloc (.cells (l.map (Value.int .u8)).toArray 5)) w.heap.size (.slice (some ⟨w.heap.size, 0, none⟩) l.length l.length) l :=
  ⟨by simp, .inr ⟨w.heap.size, l.length, (l.map (Value.int .u8)).toArray, rfl, Nat.le_refl _, heap_alloc_new w _, Nat.le_refl _, hl, by simp, by simp [List.take_of_length_le]⟩⟩
/-- So many slices, put together. -/
theorem concatN_any (w : World) (g : Nat) (hg : g = w.heap.size) (us : List Value) (ls : List (List Int)) (n : Nat) (hn : n = ls.length) (h : All2 (SlV w) us ls) (hb : ls.flatten.length ≤ 100000000) (hm : n ≤ 1000) :
    Calls Try.prog 7 #[.slice (some ⟨g, 0, none⟩) n n] (w.alloc (.cells us.toArray 44)) (WPost ls.flatten w) := by
  subst hg
  subst hn
  have hL := rdL_lit w us ls h (by simp only [maxLen]; omega)
  have hB := (Below.refl w.heap.size w).alloc (Nat.le_refl _) (.cells us.toArray 44)
  refine (concatL_any _ ls.length ls.length ls _ hL rfl hb (by omega)).mono ?_
  rintro e w' ⟨v, rfl, ho, hb⟩
  have hs := hB.size
  exact ⟨v, rfl, ho.base hs, hB.trans (hb.mono hs)⟩
theorem WPost.sl {bs : List Int} {w w' : World} {e : Ending} (h : WPost bs w e w') (hI : IsBytes bs) : ∃ B d, e = .returned (.slice B bs.length d) ∧ OwnB w' w.heap.size (.slice B bs.length d) bs ∧ SlV w' (.slice B bs.length d) bs ∧ Below w.heap.size w w' := by
  obtain ⟨u, rfl, ho, hb⟩ := h
  obtain ⟨B, d, rfl, h1, h2, h3⟩ := ho.rdX hI
  exact ⟨B, d, rfl, ho, SlV.own ho hI, hb⟩
theorem anumI_any (x : Int) (w : World) (h0 : 0 ≤ x) (h1 : x < 9223372036854775808) : Calls Try.prog 48 #[.int .i64 x] w (WPost (encU x) w) := by
  have HP := Lib.hid (putU_any none [] 0 0 x w (Rd.nil _ _ _) rfl (by omega) h0 (by omega))
  have hw : IntKind.u64.wrap x = x := by rw [IntKind.wrap_u64]; omega
  go_enter Try.func48, Try.ntmps48
  go_wp2_with fail
  refine HP.out.mono ?_
  rintro e w' ⟨v, rfl, ho, hb⟩
  have HO := Lib.hid (And.intro ho hb)
  clear ho hb
  go_wp2
  go_ret
  exact ⟨_, rfl, HO.out.1, HO.out.2⟩
theorem anumU_any (x : Int) (w : World) (h0 : 0 ≤ x) (h1 : x < 4294967296) : Calls Try.prog 11 #[.int .u32 x] w (WPost (encU x) w) := by
  have HP := Lib.hid (putU_any none [] 0 0 x w (Rd.nil _ _ _) rfl (by omega) h0 (by omega))
  have hw : IntKind.u64.wrap x = x := by rw [IntKind.wrap_u64]; omega
  go_enter Try.func11, Try.ntmps11
  go_wp2_with fail
  refine HP.out.mono ?_
  rintro e w' ⟨v, rfl, ho, hb⟩
  have HO := Lib.hid (And.intro ho hb)
  clear ho hb
  go_wp2
  go_ret
  exact ⟨_, rfl, HO.out.1, HO.out.2⟩
set_option maxHeartbeats 1000000 in
theorem asized_any {X : Nat → Prop} (A : Option Addr) (n c : Nat) (ls : List (List Int)) (w : World) (h : RdL X w (.slice A n c) ls) (hn : n = ls.length) (hb : ls.flatten.length ≤ 90000000) (hm : n ≤ 1000) (hI : IsBytes ls.flatten) :
    Calls Try.prog 40 #[.slice A n c] w (WPost (szB ls.flatten) w) := by
  have HC := Lib.hid (concatL_any A n c ls w h hn (by omega) (by omega))
  have HI := Lib.hid hI
  clear h hn hI hm
  go_enter Try.func40, Try.ntmps40
  go_wp2_with fail
  refine HC.out.mono ?_
  rintro e w1 ⟨v, rfl, ho, hb1⟩
  obtain ⟨B, d, rfl, -, -, hr⟩ := ho.rdX HI.out
  have H1 := Lib.hid (And.intro hr.rd hb1)
  clear ho hr hb1 HC
  generalize hq : ls.flatten.length = q at *
  have HQ := Lib.hid hq
  clear hq
  have HN := Lib.hid (anumI_any (q : Int) w1 (by omega) (by omega))
  go_wp2_with fail
  refine HN.out.mono ?_
  rintro e w2 ⟨v2, rfl, ho2, hb2⟩
  have H2 := Lib.hid (And.intro ho2 hb2)
  have L2 := Lib.hid (encU_len (q : Int))
  clear ho2 hb2 HN
  go_wp2_with (at_builtin; refine wpList_app rfl (.tmp 8) (.tmp 9) rfl w1.heap.size v2 (encU (q : Int)) rfl H2.out.1 B q d ls.flatten rfl HQ.out.symm (H1.out.1.later H2.out.2) (by have := L2.out; omega) H2.out.2.size ?_; intro v3 w3 hv3 hb3; have H3 := Lib.hid (And.intro hv3 hb3); clear hv3 hb3)
  go_wp2
  go_ret
  refine ⟨_, rfl, ?_, (H1.out.2.trans (H2.out.2.mono H1.out.2.size)).trans (H3.out.2.mono H1.out.2.size)⟩
  unfold szB
  rw [HQ.out]
  exact H3.out.1.base H1.out.2.size
theorem abit_any (b : Bool) (w : World) : Calls Try.prog 38 #[.bool b] w fun e w' => e = .returned (.int .u8 (bitB b)) ∧ w' = w := by
  cases b
  · go_enter Try.func38, Try.ntmps38
    go_wp2
    go_ret
    exact ⟨rfl, rfl⟩
  · go_enter Try.func38, Try.ntmps38
    go_wp2
    go_ret
    exact ⟨rfl, rfl⟩
theorem alocal_any (t : Int) (w : World) (h0 : 0 ≤ t) (h1 : t ≤ 255) : Calls Try.prog 46 #[.int .u8 t] w (WPost [1, t] w) := by
  have HO := Lib.hid (rowB_lits w [1, t] (by simp [maxLen]))
  have HB := Lib.hid ((Below.refl w.heap.size w).alloc (Nat.le_refl _) (.cells #[.int .u8 1, .int .u8 t] 5))
  go_enter Try.func46, Try.ntmps46
  go_wp2
  go_ret
  exact ⟨_, rfl, HO.out, HB.out⟩
theorem aexpr_any {X : Nat → Prop} (A : Option Addr) (n c : Nat) (is : List IV) (w : World) (hr : RdN X w (.slice A n c) is) (hil : is.length ≤ 5000) (hop : ∀ i ∈ is, OpOk i.x) :
    Calls Try.prog 43 #[.slice A n c] w (WPost (encB (is.map IV.x)) w) := by
  have HC := Lib.hid (cput_any none [] 0 0 _ is w (Rd.nil _ _ _) rfl (by omega) hr hil hop)
  clear hr hop
  go_enter Try.func43, Try.ntmps43
  go_wp2_with fail
  refine HC.out.mono ?_
  rintro e w' ⟨v, rfl, ho, hb⟩
  have HO := Lib.hid (And.intro ho hb)
  clear ho hb
  go_wp2
  go_ret
  exact ⟨_, rfl, HO.out.1, HO.out.2⟩
set_option maxHeartbeats 1000000 in
theorem asection_any {X : Nat → Prop} (id : Int) (A : Option Addr) (n c : Nat) (y : List Int) (w : World) (i0 : 0 ≤ id) (i1 : id ≤ 255) (h : RdX X w A y) (hn : n = y.length) (hc : n ≤ c) (hcm : c ≤ maxLen) (hl : n ≤ 80000000) :
    Calls Try.prog 28 #[.int .u8 id, .slice A n c] w (WPost (id :: szB y) w) := by
  have h1 : SlV w (.slice A n c) y := ⟨A, c, by rw [hn], by omega, hcm, h.mono fun _ _ _ => trivial⟩
  have hb1 := (Below.refl w.heap.size w).alloc (Nat.le_refl _) (.cells #[.int .u8 id] 5)
  have hid := SlV.lit w [id] (IsBytes.one i0 i1) (by simp [maxLen])
  have hL := rdL_lit (w.alloc (.cells #[.int .u8 id] 5)) [.slice A n c] [y] (All2.one (h1.later hb1)) (by simp [maxLen])
  have hb2 := hb1.alloc hb1.size (.cells #[.slice A n c] 44)
  have HC := Lib.hid (asized_any _ 1 1 [y] _ hL rfl (by simp; omega) (by omega) (by simpa using h.1))
  have HI := Lib.hid (szB_is h.1 (by omega))
  have hlen : ([id] ++ szB y).length ≤ 100000000 := by have := szB_len (y := y); simp; omega
  have HE := Lib.hid (And.intro hlen (And.intro hid hb2))
  clear h1 h hn hc hcm hb1 hid hL hb2 hlen
  go_enter Try.func28, Try.ntmps28
  go_wp2_with fail
  have hs : (w.alloc (.cells #[.int .u8 id] 5)).heap.size = w.heap.size + 1 := by simp
  rw [hs] at HC
  have e1 : [y].flatten = y := by simp
  rw [e1] at HC
  refine HC.out.mono ?_
  intro e w1 hP
  obtain ⟨B, d, rfl, -, hs1, hb⟩ := hP.sl HI.out
  have hb3 : Below w.heap.size w w1 := HE.out.2.2.trans (hb.mono HE.out.2.2.size)
  have hx : SlV w1 (.slice (some ⟨w.heap.size, 0, none⟩) 1 1) [id] := HE.out.2.1.later ((((Below.refl _ _).alloc (Nat.le_refl _) (.cells #[.slice A n c] 44))).trans (hb.mono (by simp)))
  have HN := Lib.hid (concatN_any w1 w1.heap.size rfl [.slice (some ⟨w.heap.size, 0, none⟩) 1 1, .slice B (szB y).length d] [[id], szB y] 2 rfl ((All2.one hx).app (All2.one hs1)) (by have := HE.out.1; simpa using this) (by omega))
  have H3 := Lib.hid hb3
  clear hP hs1 hb hb3 hx HC hs e1
  generalize (szB y).length = q at *
  go_wp2_with fail
  refine HN.out.mono ?_
  rintro e w2 ⟨v, rfl, ho, hb⟩
  have H4 := Lib.hid (And.intro ho hb)
  clear ho hb
  go_wp2
  go_ret
  exact ⟨_, rfl, by have := H4.out.1.base (base' := w.heap.size) H3.out.size; simpa using this, H3.out.trans (H4.out.2.mono H3.out.size)⟩
theorem asingle_any (id : Int) (there : Bool) (x : Int) (w : World) (i0 : 0 ≤ id) (i1 : id ≤ 255) (h0 : 0 ≤ x) (h1 : x < 4294967296) :
    Calls Try.prog 20 #[.int .u8 id, .bool there, .int .u32 x] w (WPost (sgB id there x) w) := by
  cases there
  · go_enter Try.func20, Try.ntmps20
    go_wp2
    go_ret
    exact ⟨_, rfl, OwnB.nil _ _, Below.refl _ _⟩
  · have HN := Lib.hid (anumU_any x w h0 h1)
    have HI := Lib.hid (encU_is x h0 (by omega))
    have HL := Lib.hid (encU_len x)
    go_enter Try.func20, Try.ntmps20
    go_wp2_with fail
    refine HN.out.mono ?_
    rintro e w1 ⟨v, rfl, ho, hb⟩
    obtain ⟨B, d, rfl, hd1, hd2, hr⟩ := ho.rdX HI.out
    have HS := Lib.hid (asection_any id B _ d _ w1 i0 i1 hr rfl hd1 hd2 (by have := HL.out; omega))
    have H1 := Lib.hid hb
    clear ho hb hr hd1 hd2 HN
    generalize (encU x).length = q at *
    go_wp2_with fail
    refine HS.out.mono ?_
    rintro e w2 ⟨v, rfl, ho, hb⟩
    have H2 := Lib.hid (And.intro ho hb)
    clear ho hb
    go_wp2
    go_ret
    exact ⟨_, rfl, H2.out.1.base H1.out.size, H1.out.trans (H2.out.2.mono H1.out.size)⟩
end Go.Proofs.Ytdngkbagfaeplaa

/- asm.counted: of expressions, of locals. (Written by gen_AsmList.py.) -/
namespace Go.Proofs.Ytdngkbagfaeplaa
open Go.RowKit
set_option maxRecDepth 100000
set_option linter.unusedVariables false

/-- A byte. -/
def K8 : El Int where
  n := 1
  cells z := [.int .u8 z]
  ok _ _ z := 0 ≤ z ∧ z ≤ 255
  pos := by omega
  len _ := rfl
  one a u hu := by simp at hu; subst hu; rfl
  chg h _ _ := h
  mono h _ := h
def encBV (b : BV) : List Int := encB b.x
def locB (t : Int) : List Int := [1, t]
theorem flat8 (l : List Int) : flatE K8 l = l.map (Value.int .u8) := by
  induction l with
  | nil => rfl
  | cons x l ih => rw [flatE, ih]; rfl
theorem rdE8 {X : Nat → Prop} {w : World} {A : Option Addr} {n c : Nat} {l : List Int} (h : RdX X w A l) (hn : n = l.length) (hc : n ≤ c) (hcm : c ≤ maxLen) : RdE K8 X w (.slice A n c) l :=
  ⟨A, c, by rw [hn], by omega, hcm, by rw [flat8]; exact h.2, fun z hz => h.1 z hz⟩
theorem flat_next {α : Type} {f : α → List Int} {is : List α} {k : Nat} {i : α} (h : is[k]? = some i) : ((is.take (k + 1)).map f).flatten = ((is.take k).map f).flatten ++ f i := by
  rw [List.take_add_one, h]; simp
theorem flat_some {α : Type} {f : α → List Int} {is : List α} (k : Nat) : ((is.take k).map f).flatten.length ≤ ((is.map f)).flatten.length := by
  rw [List.map_take]; exact flat_takeL k
/-- A body's instructions are such as are put. -/
def BOk (b : BV) : Prop := ∀ i ∈ b.is, OpOk i.x
theorem pExpr {X : Nat → Prop} (a : BV) (W : World) (h : KB.ok X W a) (hp : BOk a) : Calls Try.prog 43 #[a.v] W (WPost (encBV a) W) := aexpr_any _ _ _ a.is W h.rd (by have := h.2.2.2.2; omega) hp
theorem pLocal {X : Nat → Prop} (a : Int) (W : World) (h : K8.ok X W a) : Calls Try.prog 46 #[.int .u8 a] W (WPost (locB a) W) := alocal_any a W h.1 h.2
set_option maxHeartbeats 2000000 in
theorem cntEx_any {X : Nat → Prop} (A : Option Addr) (n c : Nat) (is : List BV) (w : World) (h : RdE KB X w (.slice A n c) is) (hn : n = is.length) (hm : n ≤ 1000) (hb : (is.map encBV).flatten.length ≤ 90000000) (hI : ∀ i ∈ is, IsBytes (encBV i)) (hp : ∀ i ∈ is, BOk i) :
    Calls Try.prog 42 #[.func (.func 43) #[] #[], .slice A n c] w (WPost (cntB (is.map encBV)) w) := by
  have HA := Lib.hid h
  have HN := Lib.hid hn
  have HI := Lib.hid hI
  have HBL := Lib.hid hb
  have HP := Lib.hid hp
  clear hp
  have HC := Lib.hid (anumI_any (n : Int) w (by omega) (by omega))
  clear h hn hI hb
  go_enter Try.func42, Try.ntmps42
  go_wp2_with fail
  refine HC.out.mono ?_
  rintro e w1 ⟨v, rfl, ho, hb1⟩
  have H1 := Lib.hid (And.intro ho hb1)
  have hs1 := hb1.size
  clear ho hb1 HC
  go_wp2
  go_loopw [5, 7, 13] (fun v _ i wr => ∃ (k : Nat), k ≤ n ∧ i = .int .i64 k ∧ w.heap.size ≤ wr.heap.size ∧ Hid (OwnB wr w.heap.size v (encU (n : Int) ++ ((is.take k).map encBV).flatten) ∧ Below w.heap.size w wr)) (fun _ _ i _ => n - (intOf i).toNat)
  case atStart => exact ⟨0, by omega, rfl, hs1, by simpa using H1.out.1, H1.out.2⟩
  case round =>
    obtain ⟨k, hk, rfl, hsz, HX⟩ := hrel
    by_cases hlt : k < n
    · have hlt2 : (k : Int) < n := by omega
      have hw1 : IntKind.i64.wrap ((k : Int) + 1) = (k : Int) + 1 := by rw [IntKind.wrap_i64]; omega
      obtain ⟨i, hi⟩ : ∃ i, is[k]? = some i := ⟨_, List.getElem?_eq_getElem (by have := HN.out; omega)⟩
      have him := List.mem_of_getElem? hi
      obtain ⟨bb, oo, rfl, -, hbb, hok, hcs⟩ := (HA.out.later HX.out.2).at_ hi
      have c0 := hcs 0 _ rfl
      rw [Nat.add_zero] at c0
      change wr.cell? ⟨bb, oo + k * 1, none⟩ = _ at c0
      rw [Nat.mul_one] at c0
      have HT : Hid (((is.take (k + 1)).map encBV).flatten = ((is.take k).map encBV).flatten ++ encBV i) := flat_next hi
      have HTL := Lib.hid (flat_some (f := encBV) (is := is) (k + 1))
      have HF : Hid (∀ W : World, Below wr.heap.size wr W → Calls Try.prog 43 #[BV.v i] W (WPost (encBV i) W)) := fun W (hW : Below wr.heap.size wr W) => pExpr i W ((KB).later hok hW) (HP.out i him)
      have HIi : Hid (IsBytes (encBV i)) := HI.out i him
      generalize hab : encBV i = ys at *
      clear hcs hok hi him hab
      obtain ⟨isb, Ab, cb⟩ := i
      simp only [BV.v] at *
      generalize hqbe : isb.length = qb at *
      clear hqbe
      have hbA := Below.refl wr.heap.size wr
      have HFF := Lib.hid (HF.out _ hbA)
      have HVX := Lib.hid HX.out.1
      have HBA := Lib.hid HX.out.2
      skip
      clear hbA HF
      go_wp2_with fail
      refine HFF.out.mono ?_
      rintro e w2 ⟨v2, rfl, ho, hb⟩
      obtain ⟨B, d, rfl, -, -, hr⟩ := ho.rdX HIi.out
      have H2 := Lib.hid (And.intro hr.rd (And.intro (HBA.out.trans (hb.mono HBA.out.size)) (HVX.out.later hb)))
      clear ho hb hr HFF HVX c0
      generalize hql : ys.length = ql at *
      have HQL := Lib.hid hql
      clear hql
      have LN := Lib.hid (encU_len (n : Int))
      go_wp2_with (at_builtin; refine wpList_app rfl (.tmp 17) (.tmp 20) rfl w.heap.size u5 _ rfl H2.out.2.2 B ql d ys rfl HQL.out.symm H2.out.1 (by have h1 := HTL.out; have h2 := HBL.out; have h3 := LN.out; rw [HT.out] at h1; simp only [List.length_append] at h1 ⊢; have := HQL.out; omega) H2.out.2.1.size ?_; intro v3 w3 hv3 hb3; have H3 := Lib.hid (And.intro hv3 hb3); clear hv3 hb3)
      have hs3 := (H2.out.2.1.trans H3.out.2).size
      go_wp2
      refine ⟨⟨k + 1, by omega, by push_cast; rfl, hs3, ?_, H2.out.2.1.trans H3.out.2⟩, by simp [intOf]; omega⟩
      rw [HT.out, ← List.append_assoc]
      exact H3.out.1
    · obtain rfl : k = n := by omega
      have hnl : ¬ (k : Int) < k := by omega
      go_wp2
      go_ret
      refine ⟨_, rfl, ?_, HX.out.2⟩
      unfold cntB
      rw [List.length_map, ← HN.out]
      have h9 := HX.out.1
      rwa [List.take_of_length_le (by have := HN.out; omega)] at h9
set_option maxHeartbeats 2000000 in
theorem cntLc_any {X : Nat → Prop} (A : Option Addr) (n c : Nat) (is : List Int) (w : World) (h : RdE K8 X w (.slice A n c) is) (hn : n = is.length) (hm : n ≤ 1000) (hb : (is.map locB).flatten.length ≤ 90000000) (hI : ∀ i ∈ is, IsBytes (locB i)) :
    Calls Try.prog 45 #[.func (.func 46) #[] #[], .slice A n c] w (WPost (cntB (is.map locB)) w) := by
  have HA := Lib.hid h
  have HN := Lib.hid hn
  have HI := Lib.hid hI
  have HBL := Lib.hid hb
  have HC := Lib.hid (anumI_any (n : Int) w (by omega) (by omega))
  clear h hn hI hb
  go_enter Try.func45, Try.ntmps45
  go_wp2_with fail
  refine HC.out.mono ?_
  rintro e w1 ⟨v, rfl, ho, hb1⟩
  have H1 := Lib.hid (And.intro ho hb1)
  have hs1 := hb1.size
  clear ho hb1 HC
  go_wp2
  go_loopw [5, 7, 13] (fun v _ i wr => ∃ (k : Nat), k ≤ n ∧ i = .int .i64 k ∧ w.heap.size ≤ wr.heap.size ∧ Hid (OwnB wr w.heap.size v (encU (n : Int) ++ ((is.take k).map locB).flatten) ∧ Below w.heap.size w wr)) (fun _ _ i _ => n - (intOf i).toNat)
  case atStart => exact ⟨0, by omega, rfl, hs1, by simpa using H1.out.1, H1.out.2⟩
  case round =>
    obtain ⟨k, hk, rfl, hsz, HX⟩ := hrel
    by_cases hlt : k < n
    · have hlt2 : (k : Int) < n := by omega
      have hw1 : IntKind.i64.wrap ((k : Int) + 1) = (k : Int) + 1 := by rw [IntKind.wrap_i64]; omega
      obtain ⟨i, hi⟩ : ∃ i, is[k]? = some i := ⟨_, List.getElem?_eq_getElem (by have := HN.out; omega)⟩
      have him := List.mem_of_getElem? hi
      obtain ⟨bb, oo, rfl, -, hbb, hok, hcs⟩ := (HA.out.later HX.out.2).at_ hi
      have c0 := hcs 0 _ rfl
      rw [Nat.add_zero] at c0
      change wr.cell? ⟨bb, oo + k * 1, none⟩ = _ at c0
      rw [Nat.mul_one] at c0
      have HT : Hid (((is.take (k + 1)).map locB).flatten = ((is.take k).map locB).flatten ++ locB i) := flat_next hi
      have HTL := Lib.hid (flat_some (f := locB) (is := is) (k + 1))
      have HF : Hid (∀ W : World, Below wr.heap.size wr W → Calls Try.prog 46 #[(Value.int .u8) i] W (WPost (locB i) W)) := fun W (hW : Below wr.heap.size wr W) => pLocal i W ((K8).later hok hW)
      have HIi : Hid (IsBytes (locB i)) := HI.out i him
      generalize hab : locB i = ys at *
      clear hcs hok hi him hab
      skip
      have hbA := Below.refl wr.heap.size wr
      have HFF := Lib.hid (HF.out _ hbA)
      have HVX := Lib.hid HX.out.1
      have HBA := Lib.hid HX.out.2
      skip
      clear hbA HF
      go_wp2_with fail
      refine HFF.out.mono ?_
      rintro e w2 ⟨v2, rfl, ho, hb⟩
      obtain ⟨B, d, rfl, -, -, hr⟩ := ho.rdX HIi.out
      have H2 := Lib.hid (And.intro hr.rd (And.intro (HBA.out.trans (hb.mono HBA.out.size)) (HVX.out.later hb)))
      clear ho hb hr HFF HVX c0
      generalize hql : ys.length = ql at *
      have HQL := Lib.hid hql
      clear hql
      have LN := Lib.hid (encU_len (n : Int))
      go_wp2_with (at_builtin; refine wpList_app rfl (.tmp 17) (.tmp 20) rfl w.heap.size u5 _ rfl H2.out.2.2 B ql d ys rfl HQL.out.symm H2.out.1 (by have h1 := HTL.out; have h2 := HBL.out; have h3 := LN.out; rw [HT.out] at h1; simp only [List.length_append] at h1 ⊢; have := HQL.out; omega) H2.out.2.1.size ?_; intro v3 w3 hv3 hb3; have H3 := Lib.hid (And.intro hv3 hb3); clear hv3 hb3)
      have hs3 := (H2.out.2.1.trans H3.out.2).size
      go_wp2
      refine ⟨⟨k + 1, by omega, by push_cast; rfl, hs3, ?_, H2.out.2.1.trans H3.out.2⟩, by simp [intOf]; omega⟩
      rw [HT.out, ← List.append_assoc]
      exact H3.out.1
    · obtain rfl : k = n := by omega
      have hnl : ¬ (k : Int) < k := by omega
      go_wp2
      go_ret
      refine ⟨_, rfl, ?_, HX.out.2⟩
      unfold cntB
      rw [List.length_map, ← HN.out]
      have h9 := HX.out.1
      rwa [List.take_of_length_le (by have := HN.out; omega)] at h9
end Go.Proofs.Ytdngkbagfaeplaa

/- asm: the parts of a module. -/
namespace Go.Proofs.Ytdngkbagfaeplaa
open Go.RowKit
set_option maxRecDepth 100000
set_option linter.unusedVariables false

theorem bl1 (w : World) : Below w.heap.size w w.drew := (Below.refl _ _).drew
theorem bl2 (w : World) (o : Obj) : Below w.heap.size w (w.alloc o) := (Below.refl _ _).alloc (Nat.le_refl _) _
theorem bl3 (w : World) (o : Obj) : Below w.heap.size w (w.alloc o).drew := (bl2 w o).drew
theorem bl4 (w : World) (o o' : Obj) : Below w.heap.size w ((w.alloc o).alloc o') := (bl2 w o).alloc (bl2 w o).size _
theorem bl5 (w : World) (o o' : Obj) : Below w.heap.size w ((w.alloc o).alloc o').drew := (bl4 w o o').drew
theorem blT {w a b : World} (h : Below w.heap.size w a) (k : Below a.heap.size a b) : Below w.heap.size w b := h.trans (k.mono h.size)
def putFnV (f : FV) : List Int := putFn f.x
def globBV (g : GV) : List Int := globB g.x
def elemBV (e : EV) : List Int := elemB e.x
def codeBV (c : CV) : List Int := codeB c.x
def dataBV (d : DV) : List Int := dataB d.x
def aTabV (t : TabS) : Value := .agg #[.int .u8 t.1, .int .u32 t.2.min, .int .u32 t.2.max, .bool t.2.has]
def aGlV (g : GV) : Value := .agg #[.int .u8 g.ty, .bool g.mu, g.b.v]
def aExpV (x : ExpS) : Value := .agg #[.string (strOfNums x.1), .int .u8 x.2.1, .int .u32 x.2.2]
def aElV (e : EV) : Value := .agg #[.int .u8 e.mode, .int .u8 e.ty, .int .u32 e.tb, e.off.v, e.iv]
def aCdV (c : CV) : Value := .agg #[.slice c.lA c.ls.length c.lc, c.b.v]
def aDtV (d : DV) : Value := .agg #[.int .u8 d.mode, d.off.v, .slice d.yA d.ys.length d.yc]
def FnOk (f : FV) : Prop := f.ps.length ≤ 1000000 ∧ f.rs.length ≤ 1000000
def GlOk (g : GV) : Prop := BOk g.b
def ElOk (e : EV) : Prop := BOk e.off ∧ (∀ b ∈ e.is, BOk b) ∧ (e.is.map encBV).flatten.length ≤ 60000000
def CdOk (c : CV) : Prop := BOk c.b
def DtOk (d : DV) : Prop := BOk d.off
def aFnV (f : FV) : Value := .agg #[.slice f.pA f.ps.length f.pc, .slice f.rA f.rs.length f.rc]
theorem aFnV_fnV {X : Nat → Prop} {w : World} {f : FV} (h : KFn.ok X w f) : FnV X w (aFnV f) f.x := ⟨f.pA, f.pc, f.rA, f.rc, rfl, h.1, h.2.1, h.2.2.1, h.2.2.2.1, h.2.2.2.2.1, h.2.2.2.2.2⟩
theorem qU {X : Nat → Prop} (a : Int) (W : World) (h : K32.ok X W a) : Calls Try.prog 11 #[.int .u32 a] W (WPost (encU a) W) := anumU_any a W h.1 h.2
theorem qFn {X : Nat → Prop} (a : FV) (W : World) (h : KFn.ok X W a) (hp : FnOk a) : Calls Try.prog 9 #[aFnV a] W (WPost (putFnV a) W) := by
  have hb := bl2 W (.cells #[.slice a.pA a.ps.length a.pc, .slice a.rA a.rs.length a.rc] 53)
  have HC := Lib.hid (put_fn none [] 0 0 (aFnV a) a.x _ (Rd.nil _ _ _) rfl (by omega) (by simp) (by omega) (aFnV_fnV (KFn.later h hb)) hp.1 hp.2)
  have HB := Lib.hid hb
  clear h hp hb
  obtain ⟨l1, A1, c1, l2, A2, c2⟩ := a
  simp only [aFnV] at *
  generalize hn1 : l1.length = n1 at *
  generalize hn2 : l2.length = n2 at *
  clear hn1 hn2
  go_enter Try.func9, Try.ntmps9
  go_wp2_with fail
  refine HC.out.mono ?_
  rintro e w' ⟨v, rfl, ho, hb⟩
  have HO := Lib.hid (And.intro ho hb)
  clear ho hb
  go_wp2
  go_ret
  exact ⟨_, rfl, HO.out.1.base HB.out.size, blT HB.out HO.out.2⟩
theorem Lim.In.ok {l : Lim} (h : l.In) : l.Ok := ⟨⟨h.1, by have := h.2.1; omega⟩, h.2.2.1, by have := h.2.2.2; omega⟩
theorem qLim {X : Nat → Prop} (a : Lim) (W : World) (h : KLim.ok X W a) : Calls Try.prog 15 #[limV a] W (WPost (putLim a) W) := by
  have hb := bl2 W (.cells #[.int .u32 a.min, .int .u32 a.max, .bool a.has] 39)
  have HC := Lib.hid (put_lim none [] 0 0 a _ (Rd.nil _ (W.alloc (.cells #[.int .u32 a.min, .int .u32 a.max, .bool a.has] 39)).heap.size none) rfl (by omega) (by simp) (by omega) (Lim.In.ok h))
  have HB := Lib.hid hb
  clear h hb
  obtain ⟨x1, x2, x3⟩ := a
  simp only [limV] at *
  go_enter Try.func15, Try.ntmps15
  go_wp2_with fail
  refine (HC.out).mono ?_
  rintro e w' ⟨v, rfl, ho, hb⟩
  have HO := Lib.hid (And.intro ho hb)
  clear ho hb
  go_wp2
  go_ret
  exact ⟨_, rfl, HO.out.1.base HB.out.size, blT HB.out HO.out.2⟩
theorem qTab {X : Nat → Prop} (a : TabS) (W : World) (h : KTab.ok X W a) : Calls Try.prog 13 #[aTabV a] W (WPost (tabB a) W) := by
  have hb := bl4 W (.cells #[.int .u8 a.1, .int .u32 a.2.min, .int .u32 a.2.max, .bool a.2.has] 62) (.cells #[.int .u8 a.1] 5)
  have hs : (W.alloc (.cells #[.int .u8 a.1, .int .u32 a.2.min, .int .u32 a.2.max, .bool a.2.has] 62)).heap.size = W.heap.size + 1 := by simp
  have hR := (rdX_lit (W.alloc (.cells #[.int .u8 a.1, .int .u32 a.2.min, .int .u32 a.2.max, .bool a.2.has] 62)) [a.1] (IsBytes.one h.1 h.2.1)).rd
  rw [hs] at hR
  have HC := Lib.hid (put_lim (some ⟨W.heap.size + 1, 0, none⟩) [a.1] 1 1 a.2 ((W.alloc (.cells #[.int .u8 a.1, .int .u32 a.2.min, .int .u32 a.2.max, .bool a.2.has] 62)).alloc (.cells #[.int .u8 a.1] 5)) hR rfl (by omega) (by simp [maxLen]) (by omega) (Lim.In.ok h.2.2))
  have HB := Lib.hid hb
  clear h hb hs hR
  obtain ⟨ty, x1, x2, x3⟩ := a
  simp only [limV, aTabV] at *
  go_enter Try.func13, Try.ntmps13
  go_wp2_with fail
  refine (HC.out).mono ?_
  rintro e w' ⟨v, rfl, ho, hb⟩
  have HO := Lib.hid (And.intro ho hb)
  clear ho hb
  go_wp2
  go_ret
  exact ⟨_, rfl, HO.out.1.base HB.out.size, blT HB.out HO.out.2⟩
end Go.Proofs.Ytdngkbagfaeplaa

/- asm: globals, functions. -/
namespace Go.Proofs.Ytdngkbagfaeplaa
open Go.RowKit
set_option maxRecDepth 100000
set_option linter.unusedVariables false

theorem SlV.open_ {w : World} {B : Option Addr} {n d : Nat} {l : List Int} (h : SlV w (.slice B n d) l) : n = l.length ∧ n ≤ d ∧ d ≤ maxLen ∧ RdX (fun _ => True) w B l := by
  obtain ⟨B', d', e, h1, h2, h3⟩ := h
  injection e with e1 e2 e3
  subst e1 e3
  exact ⟨e2, by omega, h2, h3⟩
theorem encB_small {is : List IV} (h : is.length ≤ 5000) (hop : ∀ i ∈ is, OpOk i.x ∧ InsOk i.x) : IsBytes (encB (is.map IV.x)) ∧ (encB (is.map IV.x)).length ≤ 10040 * is.length := by
  have := encB_is (is.map IV.x) (fun x hx => by obtain ⟨i, hi, rfl⟩ := List.mem_map.1 hx; exact hop i hi)
  simpa using this
theorem BV.enc {X : Nat → Prop} {w : World} {b : BV} (h : b.ok X w) (hp : BOk b) : IsBytes (encBV b) ∧ (encBV b).length ≤ 6024000 := by
  have h2 := encB_small (is := b.is) (by have := h.2.2.2.2; omega) fun i hi => ⟨hp i hi, (h.2.2.2.1 i hi).2⟩
  exact ⟨h2.1, by have := h2.2; have := h.2.2.2.2; show (encB (b.is.map IV.x)).length ≤ _; omega⟩
set_option maxHeartbeats 2000000 in
theorem qGlob {X : Nat → Prop} (a : GV) (W : World) (h : KGl.ok X W a) (hp : GlOk a) : Calls Try.prog 17 #[aGlV a] W (WPost (globBV a) W) := by
  have hb0 := bl2 W (.cells #[.int .u8 a.ty, .bool a.mu, a.b.v] 68)
  have HC : Hid (∀ (W' : World) (B : Option Addr), Below (W.alloc (.cells #[.int .u8 a.ty, .bool a.mu, a.b.v] 68)).heap.size (W.alloc (.cells #[.int .u8 a.ty, .bool a.mu, a.b.v] 68)) W' → SlV W' (.slice B 2 2) [a.ty, bitB a.mu] → Calls Try.prog 37 #[.slice B 2 2, a.b.v] W' (WPost (globBV a) W')) := fun W' B hW hS => by
    have h1 := hS.open_
    exact cput_any B [a.ty, bitB a.mu] 2 2 a.b.v a.b.is W' h1.2.2.2.rd rfl (by omega) ((h.2.2.later (blT hb0 hW)).rd) (by have := h.2.2.2.2.2.2; omega) hp
  have KS0 : Hid (∀ W' : World, Below (W.alloc (.cells #[.int .u8 a.ty, .bool a.mu, a.b.v] 68)).heap.size (W.alloc (.cells #[.int .u8 a.ty, .bool a.mu, a.b.v] 68)) W' → W'.cell? ⟨W.heap.size, 0, none⟩ = some (.int .u8 a.ty) ∧ W'.cell? ⟨W.heap.size, 1, none⟩ = some (.bool a.mu) ∧ W'.cell? ⟨W.heap.size, 2, none⟩ = some a.b.v) := fun W' hW => by
    have ho := (Own.new W 68 [.int .u8 a.ty, .bool a.mu, a.b.v]).later hW
    exact ⟨ho.cell 0, ho.cell 1, ho.cell 2⟩
  have HB0 := Lib.hid hb0
  have LIT : Hid (∀ W' : World, SlV (W'.alloc (.cells #[.int .u8 a.ty, .int .u8 (bitB a.mu)] 5)) (.slice (some ⟨W'.heap.size, 0, none⟩) 2 2) [a.ty, bitB a.mu]) := fun W' => SlV.lit W' [a.ty, bitB a.mu] (.cons h.1 h.2.1 (.one (bit_rng _).1 (bit_rng _).2)) (by simp [maxLen])
  clear h hp hb0
  obtain ⟨ty, mu, isb, Ab, cb⟩ := a
  simp only [aGlV, BV.v] at *
  generalize hqb : isb.length = qb at *
  have HQB := Lib.hid hqb
  clear hqb
  go_enter Try.func17, Try.ntmps17
  go_upto_region 1 with fail
  have KS := KS0
  clear KS0
  generalize W.alloc (.cells #[.int .u8 ty, .bool mu, .slice Ab qb cb] 68) = w1 at *
  generalize hbz : bitB mu = z at *
  have HZ := Lib.hid hbz
  clear hbz
  go_region_held (fun (w' : World) => w'.cell? ⟨W.heap.size, 0, none⟩ = some (.int .u8 ty) ∧ w'.cell? ⟨W.heap.size, 1, none⟩ = some (.bool mu) ∧ w'.cell? ⟨W.heap.size, 2, none⟩ = some (.slice Ab qb cb)) (exact KS.out _ (by first | exact HB3.out | exact Below.refl _ _ | exact bl1 _ | exact bl2 _ _ | exact bl3 _ _))
    (first
      | (go_at_call 37; refine (HC.out _ _ (by first | exact bl2 _ _ | exact bl3 _ _) (by first | exact LIT.out _ | exact (LIT.out _).later (bl1 _))).mono ?_; rintro e w3 ⟨v3, rfl, ho, hb⟩; have HB3 : Hid (Below w1.heap.size w1 w3) := (by first | exact blT (bl2 _ _) hb | exact blT (bl3 _ _) hb); have HO := Lib.hid ho; clear ho hb)
      | (go_at_call 38; refine (abit_any mu _).mono ?_; rintro e w2 ⟨rfl, rfl⟩; rw [HZ.out]))
  all_goals go_wp2
  all_goals go_ret
  all_goals exact ⟨_, rfl, HO.out.base (by have := HB0.out.size; have := HB3.out.size; first | omega | (simp; omega)), blT HB0.out HB3.out⟩
end Go.Proofs.Ytdngkbagfaeplaa

/- asm: laws for regions that draw their order and lay literals. -/
namespace Go.Proofs.Ytdngkbagfaeplaa
open Go.RowKit
set_option maxRecDepth 100000
set_option linter.unusedVariables false

/-- A literal of slices, at one stroke. -/
theorem run_lists (us : List Value) (hp : 0 < us.length) (hs : us.length ≤ 1000) (h1 : ∀ u ∈ us, u.cells = #[u]) (w : World) :
    (Instr.buildSlice 81 us.length ((us.zipIdx 0).map fun x => (x.2, x.1)).toArray).run Try.prog w = .ok (.slice (some ⟨w.heap.size, 0, none⟩) us.length us.length) (w.alloc (.cells us.toArray 44)) := by
  have hb := bytes_info
  cases hie : Try.prog.info? 44 with
  | none => simp [hie] at hb
  | some ie =>
    simp only [hie, Option.map_some, Option.some.injEq, Prod.mk.injEq] at hb
    obtain ⟨hz, hsz, -⟩ := hb
    refine run_buildSlice w _ _ us.length _ us.toArray ie (.slice none 0 0) under_lists hie hz (by rw [hsz]; omega) (by rw [hsz]; omega) ?_
    rw [hsz]
    exact Great.fill_flat us _ h1 (by simp)
theorem lists2 (A0 A1 : Option Addr) (n0 c0 n1 c1 : Nat) (w : World) : (Instr.buildSlice 81 2 #[(0, .slice A0 n0 c0), (1, .slice A1 n1 c1)]).run Try.prog w = .ok (.slice (some ⟨w.heap.size, 0, none⟩) 2 2) (w.alloc (.cells #[.slice A0 n0 c0, .slice A1 n1 c1] 44)) :=
  run_lists [.slice A0 n0 c0, .slice A1 n1 c1] (by simp) (by simp) (fun u hu => by simp only [List.mem_cons, List.not_mem_nil, or_false] at hu; rcases hu with rfl | rfl <;> rfl) w
theorem lists3 (A0 A1 A2 : Option Addr) (n0 c0 n1 c1 n2 c2 : Nat) (w : World) : (Instr.buildSlice 81 3 #[(0, .slice A0 n0 c0), (1, .slice A1 n1 c1), (2, .slice A2 n2 c2)]).run Try.prog w = .ok (.slice (some ⟨w.heap.size, 0, none⟩) 3 3) (w.alloc (.cells #[.slice A0 n0 c0, .slice A1 n1 c1, .slice A2 n2 c2] 44)) :=
  run_lists [.slice A0 n0 c0, .slice A1 n1 c1, .slice A2 n2 c2] (by simp) (by simp) (fun u hu => by simp only [List.mem_cons, List.not_mem_nil, or_false] at hu; rcases hu with rfl | rfl | rfl <;> rfl) w
theorem lists5 (A0 A1 A2 A3 A4 : Option Addr) (n0 c0 n1 c1 n2 c2 n3 c3 n4 c4 : Nat) (w : World) : (Instr.buildSlice 81 5 #[(0, .slice A0 n0 c0), (1, .slice A1 n1 c1), (2, .slice A2 n2 c2), (3, .slice A3 n3 c3), (4, .slice A4 n4 c4)]).run Try.prog w = .ok (.slice (some ⟨w.heap.size, 0, none⟩) 5 5) (w.alloc (.cells #[.slice A0 n0 c0, .slice A1 n1 c1, .slice A2 n2 c2, .slice A3 n3 c3, .slice A4 n4 c4] 44)) :=
  run_lists [.slice A0 n0 c0, .slice A1 n1 c1, .slice A2 n2 c2, .slice A3 n3 c3, .slice A4 n4 c4] (by simp) (by simp) (fun u hu => by simp only [List.mem_cons, List.not_mem_nil, or_false] at hu; rcases hu with rfl | rfl | rfl | rfl | rfl <;> rfl) w
theorem lists12 (A0 A1 A2 A3 A4 A5 A6 A7 A8 A9 A10 A11 : Option Addr) (n0 c0 n1 c1 n2 c2 n3 c3 n4 c4 n5 c5 n6 c6 n7 c7 n8 c8 n9 c9 n10 c10 n11 c11 : Nat) (w : World) : (Instr.buildSlice 81 12 #[(0, .slice A0 n0 c0), (1, .slice A1 n1 c1), (2, .slice A2 n2 c2), (3, .slice A3 n3 c3), (4, .slice A4 n4 c4), (5, .slice A5 n5 c5), (6, .slice A6 n6 c6), (7, .slice A7 n7 c7), (8, .slice A8 n8 c8), (9, .slice A9 n9 c9), (10, .slice A10 n10 c10), (11, .slice A11 n11 c11)]).run Try.prog w = .ok (.slice (some ⟨w.heap.size, 0, none⟩) 12 12) (w.alloc (.cells #[.slice A0 n0 c0, .slice A1 n1 c1, .slice A2 n2 c2, .slice A3 n3 c3, .slice A4 n4 c4, .slice A5 n5 c5, .slice A6 n6 c6, .slice A7 n7 c7, .slice A8 n8 c8, .slice A9 n9 c9, .slice A10 n10 c10, .slice A11 n11 c11] 44)) :=
  run_lists [.slice A0 n0 c0, .slice A1 n1 c1, .slice A2 n2 c2, .slice A3 n3 c3, .slice A4 n4 c4, .slice A5 n5 c5, .slice A6 n6 c6, .slice A7 n7 c7, .slice A8 n8 c8, .slice A9 n9 c9, .slice A10 n10 c10, .slice A11 n11 c11] (by simp) (by simp) (fun u hu => by simp only [List.mem_cons, List.not_mem_nil, or_false] at hu; rcases hu with rfl | rfl | rfl | rfl | rfl | rfl | rfl | rfl | rfl | rfl | rfl | rfl <;> rfl) w
/-- What keeps every slice of bytes as it reads. -/
def Kp (w w' : World) : Prop := ∀ u l, SlV w u l → SlV w' u l
theorem Kp.of {w w' : World} (h : Below w.heap.size w w') : Kp w w' := fun u l hs => hs.later h
theorem Kp.trans {a b c : World} (h : Kp a b) (k : Kp b c) : Kp a c := fun u l hs => k u l (h u l hs)
theorem freeze_cell (w : World) (a : Addr) (n : Nat) (b : Addr) : (w.freeze a n).cell? b = w.cell? b := by
  unfold World.freeze
  split
  · rfl
  · unfold World.cell?
    simp only [Array.getElem?_modify]
    by_cases h : a.block = b.block
    · rw [if_pos h]
      cases hb : w.heap[b.block]? with
      | none => rfl
      | some o => cases o <;> rfl
    · rw [if_neg h]
theorem Kp.frz (w : World) (a : Addr) (n : Nat) : Kp w (w.freeze a n) := fun u l ⟨B, d, e, h1, h2, h3, h4⟩ => ⟨B, d, e, h1, h2, h3, fun j u hu => by
  obtain ⟨ad, q1, q2, q3⟩ := h4 j u hu
  exact ⟨ad, q1, q2, by rw [freeze_cell]; exact q3⟩⟩
theorem frz_below {B g k : Nat} {w0 w : World} (hb : Below B w0 w) (hg : B ≤ g) : Below B w0 (w.freeze ⟨g, k, none⟩ 1) := by
  unfold World.freeze
  rw [if_neg (by decide)]
  refine ⟨hb.os, hb.tape, hb.output, by simpa using hb.size, fun i hi => ?_⟩
  show (w.heap.modify g _)[i]? = _
  rw [Array.getElem?_modify, if_neg (by omega)]
  exact hb.block i hi
theorem conv_mark {w : World} {g : Nat} {L : List Value} (h : Own w g 5 L) (n c : Nat) : (convert 44 44 (.slice (some ⟨g, 0, none⟩) n c)).run Try.prog w = .ok (.slice (some ⟨g, 0, none⟩) n c) (w.freeze ⟨g, L.length, none⟩ 1) := by
  have hsh : w.shape? g = some (5, L.length) := by
    unfold World.shape?
    rw [show w.heap[g]? = some (.cells L.toArray 5) from h]
    simp
  simp [convert, run_underlying under_bytes, run_underlying under_byte, markStringish, hsh]
theorem conv_new (w : World) (C : Array Value) (n c : Nat) : (convert 44 44 (.slice (some ⟨w.heap.size, 0, none⟩) n c)).run Try.prog (w.alloc (.cells C 5)) = .ok (.slice (some ⟨w.heap.size, 0, none⟩) n c) (w.alloc (.cells C 5 (C.size, C.size + 1))) := Lib.run_convert_bytes_const w _ _ C n c under_bytes under_byte
theorem conv_drew (w : World) (C : Array Value) (n c : Nat) : (convert 44 44 (.slice (some ⟨w.heap.size, 0, none⟩) n c)).run Try.prog (w.alloc (.cells C 5)).drew = .ok (.slice (some ⟨w.heap.size, 0, none⟩) n c) (w.alloc (.cells C 5 (C.size, C.size + 1))).drew := conv_new w.drew C n c
theorem marked_rd (w : World) (l : List Int) (hl : IsBytes l) (fr : Nat × Nat) (hm : l.length ≤ maxLen) : SlV (w.alloc (.cells (l.map (Value.int .u8)).toArray 5 fr)) (.slice (some ⟨w.heap.size, 0, none⟩) l.length l.length) l :=
  ⟨_, _, rfl, Nat.le_refl _, hm, hl, fun j u hu => by
    refine ⟨_, rfl, trivial, ?_⟩
    rw [addPlain, Nat.zero_add, World.cell?_alloc_mark]
    simpa using hu⟩
theorem run_bytes1 (z : Int) (w : World) : (Instr.buildSlice 44 1 #[(0, .int .u8 z)]).run Try.prog w = .ok (.slice (some ⟨w.heap.size, 0, none⟩) 1 1) (w.alloc (.cells #[.int .u8 z] 5)) := by go_simp
end Go.Proofs.Ytdngkbagfaeplaa
