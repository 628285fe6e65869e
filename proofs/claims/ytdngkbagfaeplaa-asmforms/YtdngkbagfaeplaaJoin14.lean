/- asm.Put: a module's bytes. (Written by gen_AsmPut.py.) -/
import Derived.Test.YtdngkbagfaeplaaJoin13
/- asm.counted and asm.list: of all parts. (Written by gen_AsmList.py.) -/
namespace Go.Proofs.Ytdngkbagfaeplaa
open Go.RowKit
set_option maxRecDepth 100000
set_option linter.unusedVariables false

set_option maxHeartbeats 2000000 in
theorem cntFn_any {X : Nat → Prop} (A : Option Addr) (n c : Nat) (is : List FV) (w : World) (h : RdE KFn X w (.slice A n c) is) (hn : n = is.length) (hm : n ≤ 1000) (hb : (is.map putFnV).flatten.length ≤ 90000000) (hI : ∀ i ∈ is, IsBytes (putFnV i)) (hp : ∀ i ∈ is, FnOk i) :
    Calls Try.prog 29 #[.func (.func 9) #[] #[], .slice A n c] w (WPost (cntB (is.map putFnV)) w) := by
  have HA := Lib.hid h
  have HN := Lib.hid hn
  have HI := Lib.hid hI
  have HBL := Lib.hid hb
  have HP := Lib.hid hp
  clear hp
  have HC := Lib.hid (anumI_any (n : Int) w (by omega) (by omega))
  clear h hn hI hb
  go_enter Try.func29, Try.ntmps29
  go_wp2_with fail
  refine HC.out.mono ?_
  rintro e w1 ⟨v, rfl, ho, hb1⟩
  have H1 := Lib.hid (And.intro ho hb1)
  have hs1 := hb1.size
  clear ho hb1 HC
  go_wp2
  go_loopw [5, 7, 13] (fun v _ i wr => ∃ (k : Nat), k ≤ n ∧ i = .int .i64 k ∧ w.heap.size ≤ wr.heap.size ∧ Hid (OwnB wr w.heap.size v (encU (n : Int) ++ ((is.take k).map putFnV).flatten) ∧ Below w.heap.size w wr)) (fun _ _ i _ => n - (intOf i).toNat)
  case atStart => exact ⟨0, by omega, rfl, hs1, by simpa using H1.out.1, H1.out.2⟩
  case round =>
    obtain ⟨k, hk, rfl, hsz, HX⟩ := hrel
    by_cases hlt : k < n
    · have hlt2 : (k : Int) < n := by omega
      have hw1 : IntKind.i64.wrap ((k : Int) + 1) = (k : Int) + 1 := by rw [IntKind.wrap_i64]; omega
      obtain ⟨i, hi⟩ : ∃ i, is[k]? = some i := ⟨_, List.getElem?_eq_getElem (by have := HN.out; omega)⟩
      have him := List.mem_of_getElem? hi
      obtain ⟨bb, oo, rfl, -, hbb, hok, hcs⟩ := (HA.out.later HX.out.2).at_ hi
      have c0 := hcs 0 _ rfl
      have c1 := hcs 1 _ rfl
      rw [Nat.add_zero] at c0
      change wr.cell? ⟨bb, oo + k * 2, none⟩ = _ at c0
      change wr.cell? ⟨bb, oo + k * 2 + 1, none⟩ = _ at c1
      have HT : Hid (((is.take (k + 1)).map putFnV).flatten = ((is.take k).map putFnV).flatten ++ putFnV i) := flat_next hi
      have HTL := Lib.hid (flat_some (f := putFnV) (is := is) (k + 1))
      have HF : Hid (∀ W : World, Below wr.heap.size wr W → Calls Try.prog 9 #[aFnV i] W (WPostR (putFnV i) W)) := fun W (hW : Below wr.heap.size wr W) => (qFn i W ((KFn).later hok hW) (HP.out i him)).mono fun _ _ h9 => WPost.r h9 (HI.out i him)
      have HIi : Hid (IsBytes (putFnV i)) := HI.out i him
      generalize hab : putFnV i = ys at *
      clear hcs hok hi him hab
      obtain ⟨l1, A1, z1, l2, A2, z2⟩ := i
      simp only [aFnV] at *
      generalize hn1e : l1.length = n1 at *
      clear hn1e
      generalize hn2e : l2.length = n2 at *
      clear hn2e
      have hbA := (Below.refl wr.heap.size wr).alloc (Nat.le_refl _) (.cells #[.slice A1 n1 z1, .slice A2 n2 z2] 53)
      have HFF := Lib.hid (HF.out _ hbA)
      have HVX := Lib.hid (HX.out.1.later hbA)
      have HBA := Lib.hid (HX.out.2.trans (hbA.mono HX.out.2.size))
      skip
      clear hbA HF
      go_wp2_with fail
      refine HFF.out.mono ?_
      rintro e w2 ⟨v2, rfl, ho, hb⟩
      obtain ⟨B, d, rfl, -, -, hr⟩ := ho
      have H2 := Lib.hid (And.intro hr.rd (And.intro (HBA.out.trans (hb.mono HBA.out.size)) (HVX.out.later hb)))
      clear hb hr HFF HVX c0 c1
      generalize hql : ys.length = ql at *
      have HQL := Lib.hid hql
      clear hql
      have LN := Lib.hid (encU_len (n : Int))
      go_wp2_with (at_builtin; refine wpList_app rfl (.tmp 17) (.tmp 20) rfl w.heap.size u5 _ rfl H2.out.2.2 B ql d ys rfl HQL.out.symm H2.out.1 (by have h1 := HTL.out; have h2 := HBL.out; have h3 := LN.out; rw [HT.out] at h1; simp only [List.length_append] at h1 ⊢; have := HQL.out; omega) H2.out.2.1.size ?_; intro v3 w3 hv3 hb3; have H3 := Lib.hid (And.intro hv3 hb3); clear hv3 hb3)
      have hs3 := (H2.out.2.1.trans H3.out.2).size
      go_wp2
      refine ⟨⟨k + 1, by omega, by push_cast; rfl, hs3, ?_, H2.out.2.1.trans H3.out.2⟩, by simp [intOf]; omega⟩
      rw [HT.out, ← List.append_assoc]
      exact H3.out.1
    · obtain rfl : k = n := by omega
      have hnl : ¬ (k : Int) < k := by omega
      go_wp2
      go_ret
      refine ⟨_, rfl, ?_, HX.out.2⟩
      unfold cntB
      rw [List.length_map, ← HN.out]
      have h9 := HX.out.1
      rwa [List.take_of_length_le (by have := HN.out; omega)] at h9
set_option maxHeartbeats 2000000 in
theorem alsFn_any {X : Nat → Prop} (id : Int) (A : Option Addr) (n c : Nat) (is : List FV) (w : World) (i0 : 0 ≤ id) (i1 : id ≤ 255) (h : RdE KFn X w (.slice A n c) is) (hn : n = is.length) (hm : n ≤ 1000) (hb : (is.map putFnV).flatten.length ≤ 70000000) (hI : ∀ i ∈ is, IsBytes (putFnV i)) (hp : ∀ i ∈ is, FnOk i) :
    Calls Try.prog 8 #[.int .u8 id, .func (.func 9) #[] #[], .slice A n c] w (WPost (lsB id (is.map putFnV)) w) := by
  by_cases h0 : n = 0
  · have hz : ((n : Int) == 0) = true := by simp; omega
    have HE : Hid (lsB id (is.map putFnV) = []) := by unfold Hid lsB; rw [if_pos (by rw [List.map_eq_nil_iff]; exact List.length_eq_zero_iff.1 (by omega))]
    clear h hn hb hI
    go_enter Try.func8, Try.ntmps8
    go_wp2
    go_ret
    exact ⟨_, rfl, by rw [HE.out]; exact OwnB.nil _ _, Below.refl _ _⟩
  · have hz : ((n : Int) == 0) = false := by simp; omega
    have HE : Hid (lsB id (is.map putFnV) = id :: szB (cntB (is.map putFnV))) := by unfold Hid lsB; rw [if_neg (by rw [List.map_eq_nil_iff]; intro e; subst e; simp at hn; omega)]
    have HC := Lib.hid (cntFn_any A n c is w h hn hm (by omega) hI hp)
    have HI := Lib.hid (cntB_is (ys := is.map putFnV) (fun y hy => by obtain ⟨i, hi, rfl⟩ := List.mem_map.1 hy; exact hI i hi) (by simp; omega))
    have HL := Lib.hid (And.intro (cntB_len (ys := is.map putFnV)) hb)
    clear h hn hb hI
    go_enter Try.func8, Try.ntmps8
    go_wp2_with fail
    refine HC.out.mono ?_
    rintro e w1 ⟨v, rfl, ho, hb⟩
    obtain ⟨B, d, rfl, hd1, hd2, hr⟩ := ho.rdX HI.out
    have HS := Lib.hid (asection_any id B _ d _ w1 i0 i1 hr rfl hd1 hd2 (by have := HL.out; omega))
    have H1 := Lib.hid hb
    clear ho hb hr hd1 hd2 HC
    generalize (cntB (is.map putFnV)).length = q at *
    go_wp2_with fail
    refine HS.out.mono ?_
    rintro e w2 ⟨v, rfl, ho, hb⟩
    have H2 := Lib.hid (And.intro ho hb)
    clear ho hb
    go_wp2
    go_ret
    exact ⟨_, rfl, by rw [HE.out]; exact H2.out.1.base H1.out.size, H1.out.trans (H2.out.2.mono H1.out.size)⟩
set_option maxHeartbeats 2000000 in
theorem cntU_any {X : Nat → Prop} (A : Option Addr) (n c : Nat) (is : List Int) (w : World) (h : RdE K32 X w (.slice A n c) is) (hn : n = is.length) (hm : n ≤ 1000) (hb : (is.map encU).flatten.length ≤ 90000000) (hI : ∀ i ∈ is, IsBytes (encU i)) :
    Calls Try.prog 31 #[.func (.func 11) #[] #[], .slice A n c] w (WPost (cntB (is.map encU)) w) := by
  have HA := Lib.hid h
  have HN := Lib.hid hn
  have HI := Lib.hid hI
  have HBL := Lib.hid hb
  have HC := Lib.hid (anumI_any (n : Int) w (by omega) (by omega))
  clear h hn hI hb
  go_enter Try.func31, Try.ntmps31
  go_wp2_with fail
  refine HC.out.mono ?_
  rintro e w1 ⟨v, rfl, ho, hb1⟩
  have H1 := Lib.hid (And.intro ho hb1)
  have hs1 := hb1.size
  clear ho hb1 HC
  go_wp2
  go_loopw [5, 7, 13] (fun v _ i wr => ∃ (k : Nat), k ≤ n ∧ i = .int .i64 k ∧ w.heap.size ≤ wr.heap.size ∧ Hid (OwnB wr w.heap.size v (encU (n : Int) ++ ((is.take k).map encU).flatten) ∧ Below w.heap.size w wr)) (fun _ _ i _ => n - (intOf i).toNat)
  case atStart => exact ⟨0, by omega, rfl, hs1, by simpa using H1.out.1, H1.out.2⟩
  case round =>
    obtain ⟨k, hk, rfl, hsz, HX⟩ := hrel
    by_cases hlt : k < n
    · have hlt2 : (k : Int) < n := by omega
      have hw1 : IntKind.i64.wrap ((k : Int) + 1) = (k : Int) + 1 := by rw [IntKind.wrap_i64]; omega
      obtain ⟨i, hi⟩ : ∃ i, is[k]? = some i := ⟨_, List.getElem?_eq_getElem (by have := HN.out; omega)⟩
      have him := List.mem_of_getElem? hi
      obtain ⟨bb, oo, rfl, -, hbb, hok, hcs⟩ := (HA.out.later HX.out.2).at_ hi
      have c0 := hcs 0 _ rfl
      rw [Nat.add_zero] at c0
      change wr.cell? ⟨bb, oo + k * 1, none⟩ = _ at c0
      rw [Nat.mul_one] at c0
      have HT : Hid (((is.take (k + 1)).map encU).flatten = ((is.take k).map encU).flatten ++ encU i) := flat_next hi
      have HTL := Lib.hid (flat_some (f := encU) (is := is) (k + 1))
      have HF : Hid (∀ W : World, Below wr.heap.size wr W → Calls Try.prog 11 #[(Value.int .u32) i] W (WPostR (encU i) W)) := fun W (hW : Below wr.heap.size wr W) => (qU i W ((K32).later hok hW)).mono fun _ _ h9 => WPost.r h9 (HI.out i him)
      have HIi : Hid (IsBytes (encU i)) := HI.out i him
      generalize hab : encU i = ys at *
      clear hcs hok hi him hab
      skip
      have hbA := Below.refl wr.heap.size wr
      have HFF := Lib.hid (HF.out _ hbA)
      have HVX := Lib.hid HX.out.1
      have HBA := Lib.hid HX.out.2
      skip
      clear hbA HF
      go_wp2_with fail
      refine HFF.out.mono ?_
      rintro e w2 ⟨v2, rfl, ho, hb⟩
      obtain ⟨B, d, rfl, -, -, hr⟩ := ho
      have H2 := Lib.hid (And.intro hr.rd (And.intro (HBA.out.trans (hb.mono HBA.out.size)) (HVX.out.later hb)))
      clear hb hr HFF HVX c0
      generalize hql : ys.length = ql at *
      have HQL := Lib.hid hql
      clear hql
      have LN := Lib.hid (encU_len (n : Int))
      go_wp2_with (at_builtin; refine wpList_app rfl (.tmp 17) (.tmp 20) rfl w.heap.size u5 _ rfl H2.out.2.2 B ql d ys rfl HQL.out.symm H2.out.1 (by have h1 := HTL.out; have h2 := HBL.out; have h3 := LN.out; rw [HT.out] at h1; simp only [List.length_append] at h1 ⊢; have := HQL.out; omega) H2.out.2.1.size ?_; intro v3 w3 hv3 hb3; have H3 := Lib.hid (And.intro hv3 hb3); clear hv3 hb3)
      have hs3 := (H2.out.2.1.trans H3.out.2).size
      go_wp2
      refine ⟨⟨k + 1, by omega, by push_cast; rfl, hs3, ?_, H2.out.2.1.trans H3.out.2⟩, by simp [intOf]; omega⟩
      rw [HT.out, ← List.append_assoc]
      exact H3.out.1
    · obtain rfl : k = n := by omega
      have hnl : ¬ (k : Int) < k := by omega
      go_wp2
      go_ret
      refine ⟨_, rfl, ?_, HX.out.2⟩
      unfold cntB
      rw [List.length_map, ← HN.out]
      have h9 := HX.out.1
      rwa [List.take_of_length_le (by have := HN.out; omega)] at h9
set_option maxHeartbeats 2000000 in
theorem alsU_any {X : Nat → Prop} (id : Int) (A : Option Addr) (n c : Nat) (is : List Int) (w : World) (i0 : 0 ≤ id) (i1 : id ≤ 255) (h : RdE K32 X w (.slice A n c) is) (hn : n = is.length) (hm : n ≤ 1000) (hb : (is.map encU).flatten.length ≤ 70000000) (hI : ∀ i ∈ is, IsBytes (encU i)) :
    Calls Try.prog 10 #[.int .u8 id, .func (.func 11) #[] #[], .slice A n c] w (WPost (lsB id (is.map encU)) w) := by
  by_cases h0 : n = 0
  · have hz : ((n : Int) == 0) = true := by simp; omega
    have HE : Hid (lsB id (is.map encU) = []) := by unfold Hid lsB; rw [if_pos (by rw [List.map_eq_nil_iff]; exact List.length_eq_zero_iff.1 (by omega))]
    clear h hn hb hI
    go_enter Try.func10, Try.ntmps10
    go_wp2
    go_ret
    exact ⟨_, rfl, by rw [HE.out]; exact OwnB.nil _ _, Below.refl _ _⟩
  · have hz : ((n : Int) == 0) = false := by simp; omega
    have HE : Hid (lsB id (is.map encU) = id :: szB (cntB (is.map encU))) := by unfold Hid lsB; rw [if_neg (by rw [List.map_eq_nil_iff]; intro e; subst e; simp at hn; omega)]
    have HC := Lib.hid (cntU_any A n c is w h hn hm (by omega) hI)
    have HI := Lib.hid (cntB_is (ys := is.map encU) (fun y hy => by obtain ⟨i, hi, rfl⟩ := List.mem_map.1 hy; exact hI i hi) (by simp; omega))
    have HL := Lib.hid (And.intro (cntB_len (ys := is.map encU)) hb)
    clear h hn hb hI
    go_enter Try.func10, Try.ntmps10
    go_wp2_with fail
    refine HC.out.mono ?_
    rintro e w1 ⟨v, rfl, ho, hb⟩
    obtain ⟨B, d, rfl, hd1, hd2, hr⟩ := ho.rdX HI.out
    have HS := Lib.hid (asection_any id B _ d _ w1 i0 i1 hr rfl hd1 hd2 (by have := HL.out; omega))
    have H1 := Lib.hid hb
    clear ho hb hr hd1 hd2 HC
    generalize (cntB (is.map encU)).length = q at *
    go_wp2_with fail
    refine HS.out.mono ?_
    rintro e w2 ⟨v, rfl, ho, hb⟩
    have H2 := Lib.hid (And.intro ho hb)
    clear ho hb
    go_wp2
    go_ret
    exact ⟨_, rfl, by rw [HE.out]; exact H2.out.1.base H1.out.size, H1.out.trans (H2.out.2.mono H1.out.size)⟩
set_option maxHeartbeats 2000000 in
theorem cntTab_any {X : Nat → Prop} (A : Option Addr) (n c : Nat) (is : List TabS) (w : World) (h : RdE KTab X w (.slice A n c) is) (hn : n = is.length) (hm : n ≤ 1000) (hb : (is.map tabB).flatten.length ≤ 90000000) (hI : ∀ i ∈ is, IsBytes (tabB i)) :
    Calls Try.prog 33 #[.func (.func 13) #[] #[], .slice A n c] w (WPost (cntB (is.map tabB)) w) := by
  have HA := Lib.hid h
  have HN := Lib.hid hn
  have HI := Lib.hid hI
  have HBL := Lib.hid hb
  have HC := Lib.hid (anumI_any (n : Int) w (by omega) (by omega))
  clear h hn hI hb
  go_enter Try.func33, Try.ntmps33
  go_wp2_with fail
  refine HC.out.mono ?_
  rintro e w1 ⟨v, rfl, ho, hb1⟩
  have H1 := Lib.hid (And.intro ho hb1)
  have hs1 := hb1.size
  clear ho hb1 HC
  go_wp2
  go_loopw [5, 7, 13] (fun v _ i wr => ∃ (k : Nat), k ≤ n ∧ i = .int .i64 k ∧ w.heap.size ≤ wr.heap.size ∧ Hid (OwnB wr w.heap.size v (encU (n : Int) ++ ((is.take k).map tabB).flatten) ∧ Below w.heap.size w wr)) (fun _ _ i _ => n - (intOf i).toNat)
  case atStart => exact ⟨0, by omega, rfl, hs1, by simpa using H1.out.1, H1.out.2⟩
  case round =>
    obtain ⟨k, hk, rfl, hsz, HX⟩ := hrel
    by_cases hlt : k < n
    · have hlt2 : (k : Int) < n := by omega
      have hw1 : IntKind.i64.wrap ((k : Int) + 1) = (k : Int) + 1 := by rw [IntKind.wrap_i64]; omega
      obtain ⟨i, hi⟩ : ∃ i, is[k]? = some i := ⟨_, List.getElem?_eq_getElem (by have := HN.out; omega)⟩
      have him := List.mem_of_getElem? hi
      obtain ⟨bb, oo, rfl, -, hbb, hok, hcs⟩ := (HA.out.later HX.out.2).at_ hi
      have c0 := hcs 0 _ rfl
      have c1 := hcs 1 _ rfl
      have c2 := hcs 2 _ rfl
      have c3 := hcs 3 _ rfl
      rw [Nat.add_zero] at c0
      change wr.cell? ⟨bb, oo + k * 4, none⟩ = _ at c0
      change wr.cell? ⟨bb, oo + k * 4 + 1, none⟩ = _ at c1
      change wr.cell? ⟨bb, oo + k * 4 + 2, none⟩ = _ at c2
      change wr.cell? ⟨bb, oo + k * 4 + 3, none⟩ = _ at c3
      have HT : Hid (((is.take (k + 1)).map tabB).flatten = ((is.take k).map tabB).flatten ++ tabB i) := flat_next hi
      have HTL := Lib.hid (flat_some (f := tabB) (is := is) (k + 1))
      have HF : Hid (∀ W : World, Below wr.heap.size wr W → Calls Try.prog 13 #[aTabV i] W (WPostR (tabB i) W)) := fun W (hW : Below wr.heap.size wr W) => (qTab i W ((KTab).later hok hW)).mono fun _ _ h9 => WPost.r h9 (HI.out i him)
      have HIi : Hid (IsBytes (tabB i)) := HI.out i him
      generalize hab : tabB i = ys at *
      clear hcs hok hi him hab
      obtain ⟨ty, y1, y2, y3⟩ := i
      simp only [aTabV] at *
      have hbA := (Below.refl wr.heap.size wr).alloc (Nat.le_refl _) (.cells #[.int .u8 ty, .int .u32 y1, .int .u32 y2, .bool y3] 62)
      have HFF := Lib.hid (HF.out _ hbA)
      have HVX := Lib.hid (HX.out.1.later hbA)
      have HBA := Lib.hid (HX.out.2.trans (hbA.mono HX.out.2.size))
      skip
      clear hbA HF
      go_wp2_with fail
      refine HFF.out.mono ?_
      rintro e w2 ⟨v2, rfl, ho, hb⟩
      obtain ⟨B, d, rfl, -, -, hr⟩ := ho
      have H2 := Lib.hid (And.intro hr.rd (And.intro (HBA.out.trans (hb.mono HBA.out.size)) (HVX.out.later hb)))
      clear hb hr HFF HVX c0 c1 c2 c3
      generalize hql : ys.length = ql at *
      have HQL := Lib.hid hql
      clear hql
      have LN := Lib.hid (encU_len (n : Int))
      go_wp2_with (at_builtin; refine wpList_app rfl (.tmp 17) (.tmp 20) rfl w.heap.size u5 _ rfl H2.out.2.2 B ql d ys rfl HQL.out.symm H2.out.1 (by have h1 := HTL.out; have h2 := HBL.out; have h3 := LN.out; rw [HT.out] at h1; simp only [List.length_append] at h1 ⊢; have := HQL.out; omega) H2.out.2.1.size ?_; intro v3 w3 hv3 hb3; have H3 := Lib.hid (And.intro hv3 hb3); clear hv3 hb3)
      have hs3 := (H2.out.2.1.trans H3.out.2).size
      go_wp2
      refine ⟨⟨k + 1, by omega, by push_cast; rfl, hs3, ?_, H2.out.2.1.trans H3.out.2⟩, by simp [intOf]; omega⟩
      rw [HT.out, ← List.append_assoc]
      exact H3.out.1
    · obtain rfl : k = n := by omega
      have hnl : ¬ (k : Int) < k := by omega
      go_wp2
      go_ret
      refine ⟨_, rfl, ?_, HX.out.2⟩
      unfold cntB
      rw [List.length_map, ← HN.out]
      have h9 := HX.out.1
      rwa [List.take_of_length_le (by have := HN.out; omega)] at h9
set_option maxHeartbeats 2000000 in
theorem alsTab_any {X : Nat → Prop} (id : Int) (A : Option Addr) (n c : Nat) (is : List TabS) (w : World) (i0 : 0 ≤ id) (i1 : id ≤ 255) (h : RdE KTab X w (.slice A n c) is) (hn : n = is.length) (hm : n ≤ 1000) (hb : (is.map tabB).flatten.length ≤ 70000000) (hI : ∀ i ∈ is, IsBytes (tabB i)) :
    Calls Try.prog 12 #[.int .u8 id, .func (.func 13) #[] #[], .slice A n c] w (WPost (lsB id (is.map tabB)) w) := by
  by_cases h0 : n = 0
  · have hz : ((n : Int) == 0) = true := by simp; omega
    have HE : Hid (lsB id (is.map tabB) = []) := by unfold Hid lsB; rw [if_pos (by rw [List.map_eq_nil_iff]; exact List.length_eq_zero_iff.1 (by omega))]
    clear h hn hb hI
    go_enter Try.func12, Try.ntmps12
    go_wp2
    go_ret
    exact ⟨_, rfl, by rw [HE.out]; exact OwnB.nil _ _, Below.refl _ _⟩
  · have hz : ((n : Int) == 0) = false := by simp; omega
    have HE : Hid (lsB id (is.map tabB) = id :: szB (cntB (is.map tabB))) := by unfold Hid lsB; rw [if_neg (by rw [List.map_eq_nil_iff]; intro e; subst e; simp at hn; omega)]
    have HC := Lib.hid (cntTab_any A n c is w h hn hm (by omega) hI)
    have HI := Lib.hid (cntB_is (ys := is.map tabB) (fun y hy => by obtain ⟨i, hi, rfl⟩ := List.mem_map.1 hy; exact hI i hi) (by simp; omega))
    have HL := Lib.hid (And.intro (cntB_len (ys := is.map tabB)) hb)
    clear h hn hb hI
    go_enter Try.func12, Try.ntmps12
    go_wp2_with fail
    refine HC.out.mono ?_
    rintro e w1 ⟨v, rfl, ho, hb⟩
    obtain ⟨B, d, rfl, hd1, hd2, hr⟩ := ho.rdX HI.out
    have HS := Lib.hid (asection_any id B _ d _ w1 i0 i1 hr rfl hd1 hd2 (by have := HL.out; omega))
    have H1 := Lib.hid hb
    clear ho hb hr hd1 hd2 HC
    generalize (cntB (is.map tabB)).length = q at *
    go_wp2_with fail
    refine HS.out.mono ?_
    rintro e w2 ⟨v, rfl, ho, hb⟩
    have H2 := Lib.hid (And.intro ho hb)
    clear ho hb
    go_wp2
    go_ret
    exact ⟨_, rfl, by rw [HE.out]; exact H2.out.1.base H1.out.size, H1.out.trans (H2.out.2.mono H1.out.size)⟩
set_option maxHeartbeats 2000000 in
theorem cntLim_any {X : Nat → Prop} (A : Option Addr) (n c : Nat) (is : List Lim) (w : World) (h : RdE KLim X w (.slice A n c) is) (hn : n = is.length) (hm : n ≤ 1000) (hb : (is.map putLim).flatten.length ≤ 90000000) (hI : ∀ i ∈ is, IsBytes (putLim i)) :
    Calls Try.prog 35 #[.func (.func 15) #[] #[], .slice A n c] w (WPost (cntB (is.map putLim)) w) := by
  have HA := Lib.hid h
  have HN := Lib.hid hn
  have HI := Lib.hid hI
  have HBL := Lib.hid hb
  have HC := Lib.hid (anumI_any (n : Int) w (by omega) (by omega))
  clear h hn hI hb
  go_enter Try.func35, Try.ntmps35
  go_wp2_with fail
  refine HC.out.mono ?_
  rintro e w1 ⟨v, rfl, ho, hb1⟩
  have H1 := Lib.hid (And.intro ho hb1)
  have hs1 := hb1.size
  clear ho hb1 HC
  go_wp2
  go_loopw [5, 7, 13] (fun v _ i wr => ∃ (k : Nat), k ≤ n ∧ i = .int .i64 k ∧ w.heap.size ≤ wr.heap.size ∧ Hid (OwnB wr w.heap.size v (encU (n : Int) ++ ((is.take k).map putLim).flatten) ∧ Below w.heap.size w wr)) (fun _ _ i _ => n - (intOf i).toNat)
  case atStart => exact ⟨0, by omega, rfl, hs1, by simpa using H1.out.1, H1.out.2⟩
  case round =>
    obtain ⟨k, hk, rfl, hsz, HX⟩ := hrel
    by_cases hlt : k < n
    · have hlt2 : (k : Int) < n := by omega
      have hw1 : IntKind.i64.wrap ((k : Int) + 1) = (k : Int) + 1 := by rw [IntKind.wrap_i64]; omega
      obtain ⟨i, hi⟩ : ∃ i, is[k]? = some i := ⟨_, List.getElem?_eq_getElem (by have := HN.out; omega)⟩
      have him := List.mem_of_getElem? hi
      obtain ⟨bb, oo, rfl, -, hbb, hok, hcs⟩ := (HA.out.later HX.out.2).at_ hi
      have c0 := hcs 0 _ rfl
      have c1 := hcs 1 _ rfl
      have c2 := hcs 2 _ rfl
      rw [Nat.add_zero] at c0
      change wr.cell? ⟨bb, oo + k * 3, none⟩ = _ at c0
      change wr.cell? ⟨bb, oo + k * 3 + 1, none⟩ = _ at c1
      change wr.cell? ⟨bb, oo + k * 3 + 2, none⟩ = _ at c2
      have HT : Hid (((is.take (k + 1)).map putLim).flatten = ((is.take k).map putLim).flatten ++ putLim i) := flat_next hi
      have HTL := Lib.hid (flat_some (f := putLim) (is := is) (k + 1))
      have HF : Hid (∀ W : World, Below wr.heap.size wr W → Calls Try.prog 15 #[limV i] W (WPostR (putLim i) W)) := fun W (hW : Below wr.heap.size wr W) => (qLim i W ((KLim).later hok hW)).mono fun _ _ h9 => WPost.r h9 (HI.out i him)
      have HIi : Hid (IsBytes (putLim i)) := HI.out i him
      generalize hab : putLim i = ys at *
      clear hcs hok hi him hab
      obtain ⟨y1, y2, y3⟩ := i
      simp only [limV] at *
      have hbA := (Below.refl wr.heap.size wr).alloc (Nat.le_refl _) (.cells #[.int .u32 y1, .int .u32 y2, .bool y3] 39)
      have HFF := Lib.hid (HF.out _ hbA)
      have HVX := Lib.hid (HX.out.1.later hbA)
      have HBA := Lib.hid (HX.out.2.trans (hbA.mono HX.out.2.size))
      skip
      clear hbA HF
      go_wp2_with fail
      refine HFF.out.mono ?_
      rintro e w2 ⟨v2, rfl, ho, hb⟩
      obtain ⟨B, d, rfl, -, -, hr⟩ := ho
      have H2 := Lib.hid (And.intro hr.rd (And.intro (HBA.out.trans (hb.mono HBA.out.size)) (HVX.out.later hb)))
      clear hb hr HFF HVX c0 c1 c2
      generalize hql : ys.length = ql at *
      have HQL := Lib.hid hql
      clear hql
      have LN := Lib.hid (encU_len (n : Int))
      go_wp2_with (at_builtin; refine wpList_app rfl (.tmp 17) (.tmp 20) rfl w.heap.size u5 _ rfl H2.out.2.2 B ql d ys rfl HQL.out.symm H2.out.1 (by have h1 := HTL.out; have h2 := HBL.out; have h3 := LN.out; rw [HT.out] at h1; simp only [List.length_append] at h1 ⊢; have := HQL.out; omega) H2.out.2.1.size ?_; intro v3 w3 hv3 hb3; have H3 := Lib.hid (And.intro hv3 hb3); clear hv3 hb3)
      have hs3 := (H2.out.2.1.trans H3.out.2).size
      go_wp2
      refine ⟨⟨k + 1, by omega, by push_cast; rfl, hs3, ?_, H2.out.2.1.trans H3.out.2⟩, by simp [intOf]; omega⟩
      rw [HT.out, ← List.append_assoc]
      exact H3.out.1
    · obtain rfl : k = n := by omega
      have hnl : ¬ (k : Int) < k := by omega
      go_wp2
      go_ret
      refine ⟨_, rfl, ?_, HX.out.2⟩
      unfold cntB
      rw [List.length_map, ← HN.out]
      have h9 := HX.out.1
      rwa [List.take_of_length_le (by have := HN.out; omega)] at h9
set_option maxHeartbeats 2000000 in
theorem alsLim_any {X : Nat → Prop} (id : Int) (A : Option Addr) (n c : Nat) (is : List Lim) (w : World) (i0 : 0 ≤ id) (i1 : id ≤ 255) (h : RdE KLim X w (.slice A n c) is) (hn : n = is.length) (hm : n ≤ 1000) (hb : (is.map putLim).flatten.length ≤ 70000000) (hI : ∀ i ∈ is, IsBytes (putLim i)) :
    Calls Try.prog 14 #[.int .u8 id, .func (.func 15) #[] #[], .slice A n c] w (WPost (lsB id (is.map putLim)) w) := by
  by_cases h0 : n = 0
  · have hz : ((n : Int) == 0) = true := by simp; omega
    have HE : Hid (lsB id (is.map putLim) = []) := by unfold Hid lsB; rw [if_pos (by rw [List.map_eq_nil_iff]; exact List.length_eq_zero_iff.1 (by omega))]
    clear h hn hb hI
    go_enter Try.func14, Try.ntmps14
    go_wp2
    go_ret
    exact ⟨_, rfl, by rw [HE.out]; exact OwnB.nil _ _, Below.refl _ _⟩
  · have hz : ((n : Int) == 0) = false := by simp; omega
    have HE : Hid (lsB id (is.map putLim) = id :: szB (cntB (is.map putLim))) := by unfold Hid lsB; rw [if_neg (by rw [List.map_eq_nil_iff]; intro e; subst e; simp at hn; omega)]
    have HC := Lib.hid (cntLim_any A n c is w h hn hm (by omega) hI)
    have HI := Lib.hid (cntB_is (ys := is.map putLim) (fun y hy => by obtain ⟨i, hi, rfl⟩ := List.mem_map.1 hy; exact hI i hi) (by simp; omega))
    have HL := Lib.hid (And.intro (cntB_len (ys := is.map putLim)) hb)
    clear h hn hb hI
    go_enter Try.func14, Try.ntmps14
    go_wp2_with fail
    refine HC.out.mono ?_
    rintro e w1 ⟨v, rfl, ho, hb⟩
    obtain ⟨B, d, rfl, hd1, hd2, hr⟩ := ho.rdX HI.out
    have HS := Lib.hid (asection_any id B _ d _ w1 i0 i1 hr rfl hd1 hd2 (by have := HL.out; omega))
    have H1 := Lib.hid hb
    clear ho hb hr hd1 hd2 HC
    generalize (cntB (is.map putLim)).length = q at *
    go_wp2_with fail
    refine HS.out.mono ?_
    rintro e w2 ⟨v, rfl, ho, hb⟩
    have H2 := Lib.hid (And.intro ho hb)
    clear ho hb
    go_wp2
    go_ret
    exact ⟨_, rfl, by rw [HE.out]; exact H2.out.1.base H1.out.size, H1.out.trans (H2.out.2.mono H1.out.size)⟩
set_option maxHeartbeats 2000000 in
theorem cntGlob_any {X : Nat → Prop} (A : Option Addr) (n c : Nat) (is : List GV) (w : World) (h : RdE KGl X w (.slice A n c) is) (hn : n = is.length) (hm : n ≤ 1000) (hb : (is.map globBV).flatten.length ≤ 90000000) (hI : ∀ i ∈ is, IsBytes (globBV i)) (hp : ∀ i ∈ is, GlOk i) :
    Calls Try.prog 36 #[.func (.func 17) #[] #[], .slice A n c] w (WPost (cntB (is.map globBV)) w) := by
  have HA := Lib.hid h
  have HN := Lib.hid hn
  have HI := Lib.hid hI
  have HBL := Lib.hid hb
  have HP := Lib.hid hp
  clear hp
  have HC := Lib.hid (anumI_any (n : Int) w (by omega) (by omega))
  clear h hn hI hb
  go_enter Try.func36, Try.ntmps36
  go_wp2_with fail
  refine HC.out.mono ?_
  rintro e w1 ⟨v, rfl, ho, hb1⟩
  have H1 := Lib.hid (And.intro ho hb1)
  have hs1 := hb1.size
  clear ho hb1 HC
  go_wp2
  go_loopw [5, 7, 13] (fun v _ i wr => ∃ (k : Nat), k ≤ n ∧ i = .int .i64 k ∧ w.heap.size ≤ wr.heap.size ∧ Hid (OwnB wr w.heap.size v (encU (n : Int) ++ ((is.take k).map globBV).flatten) ∧ Below w.heap.size w wr)) (fun _ _ i _ => n - (intOf i).toNat)
  case atStart => exact ⟨0, by omega, rfl, hs1, by simpa using H1.out.1, H1.out.2⟩
  case round =>
    obtain ⟨k, hk, rfl, hsz, HX⟩ := hrel
    by_cases hlt : k < n
    · have hlt2 : (k : Int) < n := by omega
      have hw1 : IntKind.i64.wrap ((k : Int) + 1) = (k : Int) + 1 := by rw [IntKind.wrap_i64]; omega
      obtain ⟨i, hi⟩ : ∃ i, is[k]? = some i := ⟨_, List.getElem?_eq_getElem (by have := HN.out; omega)⟩
      have him := List.mem_of_getElem? hi
      obtain ⟨bb, oo, rfl, -, hbb, hok, hcs⟩ := (HA.out.later HX.out.2).at_ hi
      have c0 := hcs 0 _ rfl
      have c1 := hcs 1 _ rfl
      have c2 := hcs 2 _ rfl
      rw [Nat.add_zero] at c0
      change wr.cell? ⟨bb, oo + k * 3, none⟩ = _ at c0
      change wr.cell? ⟨bb, oo + k * 3 + 1, none⟩ = _ at c1
      change wr.cell? ⟨bb, oo + k * 3 + 2, none⟩ = _ at c2
      have HT : Hid (((is.take (k + 1)).map globBV).flatten = ((is.take k).map globBV).flatten ++ globBV i) := flat_next hi
      have HTL := Lib.hid (flat_some (f := globBV) (is := is) (k + 1))
      have HF : Hid (∀ W : World, Below wr.heap.size wr W → Calls Try.prog 17 #[aGlV i] W (WPostR (globBV i) W)) := fun W (hW : Below wr.heap.size wr W) => (qGlob i W ((KGl).later hok hW) (HP.out i him)).mono fun _ _ h9 => WPost.r h9 (HI.out i him)
      have HIi : Hid (IsBytes (globBV i)) := HI.out i him
      generalize hab : globBV i = ys at *
      clear hcs hok hi him hab
      obtain ⟨ty, mu, isb, Ab, cb⟩ := i
      simp only [aGlV, BV.v] at *
      generalize hqbe : isb.length = qb at *
      clear hqbe
      have hbA := (Below.refl wr.heap.size wr).alloc (Nat.le_refl _) (.cells #[.int .u8 ty, .bool mu, .slice Ab qb cb] 68)
      have HFF := Lib.hid (HF.out _ hbA)
      have HVX := Lib.hid (HX.out.1.later hbA)
      have HBA := Lib.hid (HX.out.2.trans (hbA.mono HX.out.2.size))
      skip
      clear hbA HF
      go_wp2_with fail
      refine HFF.out.mono ?_
      rintro e w2 ⟨v2, rfl, ho, hb⟩
      obtain ⟨B, d, rfl, -, -, hr⟩ := ho
      have H2 := Lib.hid (And.intro hr.rd (And.intro (HBA.out.trans (hb.mono HBA.out.size)) (HVX.out.later hb)))
      clear hb hr HFF HVX c0 c1 c2
      generalize hql : ys.length = ql at *
      have HQL := Lib.hid hql
      clear hql
      have LN := Lib.hid (encU_len (n : Int))
      go_wp2_with (at_builtin; refine wpList_app rfl (.tmp 17) (.tmp 20) rfl w.heap.size u5 _ rfl H2.out.2.2 B ql d ys rfl HQL.out.symm H2.out.1 (by have h1 := HTL.out; have h2 := HBL.out; have h3 := LN.out; rw [HT.out] at h1; simp only [List.length_append] at h1 ⊢; have := HQL.out; omega) H2.out.2.1.size ?_; intro v3 w3 hv3 hb3; have H3 := Lib.hid (And.intro hv3 hb3); clear hv3 hb3)
      have hs3 := (H2.out.2.1.trans H3.out.2).size
      go_wp2
      refine ⟨⟨k + 1, by omega, by push_cast; rfl, hs3, ?_, H2.out.2.1.trans H3.out.2⟩, by simp [intOf]; omega⟩
      rw [HT.out, ← List.append_assoc]
      exact H3.out.1
    · obtain rfl : k = n := by omega
      have hnl : ¬ (k : Int) < k := by omega
      go_wp2
      go_ret
      refine ⟨_, rfl, ?_, HX.out.2⟩
      unfold cntB
      rw [List.length_map, ← HN.out]
      have h9 := HX.out.1
      rwa [List.take_of_length_le (by have := HN.out; omega)] at h9
set_option maxHeartbeats 2000000 in
theorem alsGlob_any {X : Nat → Prop} (id : Int) (A : Option Addr) (n c : Nat) (is : List GV) (w : World) (i0 : 0 ≤ id) (i1 : id ≤ 255) (h : RdE KGl X w (.slice A n c) is) (hn : n = is.length) (hm : n ≤ 1000) (hb : (is.map globBV).flatten.length ≤ 70000000) (hI : ∀ i ∈ is, IsBytes (globBV i)) (hp : ∀ i ∈ is, GlOk i) :
    Calls Try.prog 16 #[.int .u8 id, .func (.func 17) #[] #[], .slice A n c] w (WPost (lsB id (is.map globBV)) w) := by
  by_cases h0 : n = 0
  · have hz : ((n : Int) == 0) = true := by simp; omega
    have HE : Hid (lsB id (is.map globBV) = []) := by unfold Hid lsB; rw [if_pos (by rw [List.map_eq_nil_iff]; exact List.length_eq_zero_iff.1 (by omega))]
    clear h hn hb hI
    go_enter Try.func16, Try.ntmps16
    go_wp2
    go_ret
    exact ⟨_, rfl, by rw [HE.out]; exact OwnB.nil _ _, Below.refl _ _⟩
  · have hz : ((n : Int) == 0) = false := by simp; omega
    have HE : Hid (lsB id (is.map globBV) = id :: szB (cntB (is.map globBV))) := by unfold Hid lsB; rw [if_neg (by rw [List.map_eq_nil_iff]; intro e; subst e; simp at hn; omega)]
    have HC := Lib.hid (cntGlob_any A n c is w h hn hm (by omega) hI hp)
    have HI := Lib.hid (cntB_is (ys := is.map globBV) (fun y hy => by obtain ⟨i, hi, rfl⟩ := List.mem_map.1 hy; exact hI i hi) (by simp; omega))
    have HL := Lib.hid (And.intro (cntB_len (ys := is.map globBV)) hb)
    clear h hn hb hI
    go_enter Try.func16, Try.ntmps16
    go_wp2_with fail
    refine HC.out.mono ?_
    rintro e w1 ⟨v, rfl, ho, hb⟩
    obtain ⟨B, d, rfl, hd1, hd2, hr⟩ := ho.rdX HI.out
    have HS := Lib.hid (asection_any id B _ d _ w1 i0 i1 hr rfl hd1 hd2 (by have := HL.out; omega))
    have H1 := Lib.hid hb
    clear ho hb hr hd1 hd2 HC
    generalize (cntB (is.map globBV)).length = q at *
    go_wp2_with fail
    refine HS.out.mono ?_
    rintro e w2 ⟨v, rfl, ho, hb⟩
    have H2 := Lib.hid (And.intro ho hb)
    clear ho hb
    go_wp2
    go_ret
    exact ⟨_, rfl, by rw [HE.out]; exact H2.out.1.base H1.out.size, H1.out.trans (H2.out.2.mono H1.out.size)⟩
set_option maxHeartbeats 2000000 in
theorem cntElm_any {X : Nat → Prop} (A : Option Addr) (n c : Nat) (is : List EV) (w : World) (h : RdE KElm X w (.slice A n c) is) (hn : n = is.length) (hm : n ≤ 1000) (hb : (is.map elemBV).flatten.length ≤ 90000000) (hI : ∀ i ∈ is, IsBytes (elemBV i)) (hp : ∀ i ∈ is, ElOk i) :
    Calls Try.prog 41 #[.func (.func 22) #[] #[], .slice A n c] w (WPost (cntB (is.map elemBV)) w) := by
  have HA := Lib.hid h
  have HN := Lib.hid hn
  have HI := Lib.hid hI
  have HBL := Lib.hid hb
  have HP := Lib.hid hp
  clear hp
  have HC := Lib.hid (anumI_any (n : Int) w (by omega) (by omega))
  clear h hn hI hb
  go_enter Try.func41, Try.ntmps41
  go_wp2_with fail
  refine HC.out.mono ?_
  rintro e w1 ⟨v, rfl, ho, hb1⟩
  have H1 := Lib.hid (And.intro ho hb1)
  have hs1 := hb1.size
  clear ho hb1 HC
  go_wp2
  go_loopw [5, 7, 13] (fun v _ i wr => ∃ (k : Nat), k ≤ n ∧ i = .int .i64 k ∧ w.heap.size ≤ wr.heap.size ∧ Hid (OwnB wr w.heap.size v (encU (n : Int) ++ ((is.take k).map elemBV).flatten) ∧ Below w.heap.size w wr)) (fun _ _ i _ => n - (intOf i).toNat)
  case atStart => exact ⟨0, by omega, rfl, hs1, by simpa using H1.out.1, H1.out.2⟩
  case round =>
    obtain ⟨k, hk, rfl, hsz, HX⟩ := hrel
    by_cases hlt : k < n
    · have hlt2 : (k : Int) < n := by omega
      have hw1 : IntKind.i64.wrap ((k : Int) + 1) = (k : Int) + 1 := by rw [IntKind.wrap_i64]; omega
      obtain ⟨i, hi⟩ : ∃ i, is[k]? = some i := ⟨_, List.getElem?_eq_getElem (by have := HN.out; omega)⟩
      have him := List.mem_of_getElem? hi
      obtain ⟨bb, oo, rfl, -, hbb, hok, hcs⟩ := (HA.out.later HX.out.2).at_ hi
      have c0 := hcs 0 _ rfl
      have c1 := hcs 1 _ rfl
      have c2 := hcs 2 _ rfl
      have c3 := hcs 3 _ rfl
      have c4 := hcs 4 _ rfl
      rw [Nat.add_zero] at c0
      change wr.cell? ⟨bb, oo + k * 5, none⟩ = _ at c0
      change wr.cell? ⟨bb, oo + k * 5 + 1, none⟩ = _ at c1
      change wr.cell? ⟨bb, oo + k * 5 + 2, none⟩ = _ at c2
      change wr.cell? ⟨bb, oo + k * 5 + 3, none⟩ = _ at c3
      change wr.cell? ⟨bb, oo + k * 5 + 4, none⟩ = _ at c4
      have HT : Hid (((is.take (k + 1)).map elemBV).flatten = ((is.take k).map elemBV).flatten ++ elemBV i) := flat_next hi
      have HTL := Lib.hid (flat_some (f := elemBV) (is := is) (k + 1))
      have HF : Hid (∀ W : World, Below wr.heap.size wr W → Calls Try.prog 22 #[aElV i] W (WPostR (elemBV i) W)) := fun W (hW : Below wr.heap.size wr W) => qElm i W ((KElm).later hok hW) (HP.out i him)
      have HIi : Hid (IsBytes (elemBV i)) := HI.out i him
      generalize hab : elemBV i = ys at *
      clear hcs hok hi him hab
      obtain ⟨md, ty, tb, ⟨isb, Ab, cb⟩, js, jA, jc⟩ := i
      simp only [aElV, EV.iv, BV.v] at *
      generalize hqbe : isb.length = qb at *
      clear hqbe
      generalize hqje : js.length = qj at *
      clear hqje
      have hbA := (Below.refl wr.heap.size wr).alloc (Nat.le_refl _) (.cells #[.int .u8 md, .int .u8 ty, .int .u32 tb, .slice Ab qb cb, .slice jA qj jc] 43)
      have HFF := Lib.hid (HF.out _ hbA)
      have HVX := Lib.hid (HX.out.1.later hbA)
      have HBA := Lib.hid (HX.out.2.trans (hbA.mono HX.out.2.size))
      skip
      clear hbA HF
      go_wp2_with fail
      refine HFF.out.mono ?_
      rintro e w2 ⟨v2, rfl, ho, hb⟩
      obtain ⟨B, d, rfl, -, -, hr⟩ := ho
      have H2 := Lib.hid (And.intro hr.rd (And.intro (HBA.out.trans (hb.mono HBA.out.size)) (HVX.out.later hb)))
      clear hb hr HFF HVX c0 c1 c2 c3 c4
      generalize hql : ys.length = ql at *
      have HQL := Lib.hid hql
      clear hql
      have LN := Lib.hid (encU_len (n : Int))
      go_wp2_with (at_builtin; refine wpList_app rfl (.tmp 17) (.tmp 20) rfl w.heap.size u5 _ rfl H2.out.2.2 B ql d ys rfl HQL.out.symm H2.out.1 (by have h1 := HTL.out; have h2 := HBL.out; have h3 := LN.out; rw [HT.out] at h1; simp only [List.length_append] at h1 ⊢; have := HQL.out; omega) H2.out.2.1.size ?_; intro v3 w3 hv3 hb3; have H3 := Lib.hid (And.intro hv3 hb3); clear hv3 hb3)
      have hs3 := (H2.out.2.1.trans H3.out.2).size
      go_wp2
      refine ⟨⟨k + 1, by omega, by push_cast; rfl, hs3, ?_, H2.out.2.1.trans H3.out.2⟩, by simp [intOf]; omega⟩
      rw [HT.out, ← List.append_assoc]
      exact H3.out.1
    · obtain rfl : k = n := by omega
      have hnl : ¬ (k : Int) < k := by omega
      go_wp2
      go_ret
      refine ⟨_, rfl, ?_, HX.out.2⟩
      unfold cntB
      rw [List.length_map, ← HN.out]
      have h9 := HX.out.1
      rwa [List.take_of_length_le (by have := HN.out; omega)] at h9
set_option maxHeartbeats 2000000 in
theorem alsElm_any {X : Nat → Prop} (id : Int) (A : Option Addr) (n c : Nat) (is : List EV) (w : World) (i0 : 0 ≤ id) (i1 : id ≤ 255) (h : RdE KElm X w (.slice A n c) is) (hn : n = is.length) (hm : n ≤ 1000) (hb : (is.map elemBV).flatten.length ≤ 70000000) (hI : ∀ i ∈ is, IsBytes (elemBV i)) (hp : ∀ i ∈ is, ElOk i) :
    Calls Try.prog 21 #[.int .u8 id, .func (.func 22) #[] #[], .slice A n c] w (WPost (lsB id (is.map elemBV)) w) := by
  by_cases h0 : n = 0
  · have hz : ((n : Int) == 0) = true := by simp; omega
    have HE : Hid (lsB id (is.map elemBV) = []) := by unfold Hid lsB; rw [if_pos (by rw [List.map_eq_nil_iff]; exact List.length_eq_zero_iff.1 (by omega))]
    clear h hn hb hI
    go_enter Try.func21, Try.ntmps21
    go_wp2
    go_ret
    exact ⟨_, rfl, by rw [HE.out]; exact OwnB.nil _ _, Below.refl _ _⟩
  · have hz : ((n : Int) == 0) = false := by simp; omega
    have HE : Hid (lsB id (is.map elemBV) = id :: szB (cntB (is.map elemBV))) := by unfold Hid lsB; rw [if_neg (by rw [List.map_eq_nil_iff]; intro e; subst e; simp at hn; omega)]
    have HC := Lib.hid (cntElm_any A n c is w h hn hm (by omega) hI hp)
    have HI := Lib.hid (cntB_is (ys := is.map elemBV) (fun y hy => by obtain ⟨i, hi, rfl⟩ := List.mem_map.1 hy; exact hI i hi) (by simp; omega))
    have HL := Lib.hid (And.intro (cntB_len (ys := is.map elemBV)) hb)
    clear h hn hb hI
    go_enter Try.func21, Try.ntmps21
    go_wp2_with fail
    refine HC.out.mono ?_
    rintro e w1 ⟨v, rfl, ho, hb⟩
    obtain ⟨B, d, rfl, hd1, hd2, hr⟩ := ho.rdX HI.out
    have HS := Lib.hid (asection_any id B _ d _ w1 i0 i1 hr rfl hd1 hd2 (by have := HL.out; omega))
    have H1 := Lib.hid hb
    clear ho hb hr hd1 hd2 HC
    generalize (cntB (is.map elemBV)).length = q at *
    go_wp2_with fail
    refine HS.out.mono ?_
    rintro e w2 ⟨v, rfl, ho, hb⟩
    have H2 := Lib.hid (And.intro ho hb)
    clear ho hb
    go_wp2
    go_ret
    exact ⟨_, rfl, by rw [HE.out]; exact H2.out.1.base H1.out.size, H1.out.trans (H2.out.2.mono H1.out.size)⟩
set_option maxHeartbeats 2000000 in
theorem cntCod_any {X : Nat → Prop} (A : Option Addr) (n c : Nat) (is : List CV) (w : World) (h : RdE KCd X w (.slice A n c) is) (hn : n = is.length) (hm : n ≤ 1000) (hb : (is.map codeBV).flatten.length ≤ 90000000) (hI : ∀ i ∈ is, IsBytes (codeBV i)) (hp : ∀ i ∈ is, CdOk i) :
    Calls Try.prog 44 #[.func (.func 24) #[] #[], .slice A n c] w (WPost (cntB (is.map codeBV)) w) := by
  have HA := Lib.hid h
  have HN := Lib.hid hn
  have HI := Lib.hid hI
  have HBL := Lib.hid hb
  have HP := Lib.hid hp
  clear hp
  have HC := Lib.hid (anumI_any (n : Int) w (by omega) (by omega))
  clear h hn hI hb
  go_enter Try.func44, Try.ntmps44
  go_wp2_with fail
  refine HC.out.mono ?_
  rintro e w1 ⟨v, rfl, ho, hb1⟩
  have H1 := Lib.hid (And.intro ho hb1)
  have hs1 := hb1.size
  clear ho hb1 HC
  go_wp2
  go_loopw [5, 7, 13] (fun v _ i wr => ∃ (k : Nat), k ≤ n ∧ i = .int .i64 k ∧ w.heap.size ≤ wr.heap.size ∧ Hid (OwnB wr w.heap.size v (encU (n : Int) ++ ((is.take k).map codeBV).flatten) ∧ Below w.heap.size w wr)) (fun _ _ i _ => n - (intOf i).toNat)
  case atStart => exact ⟨0, by omega, rfl, hs1, by simpa using H1.out.1, H1.out.2⟩
  case round =>
    obtain ⟨k, hk, rfl, hsz, HX⟩ := hrel
    by_cases hlt : k < n
    · have hlt2 : (k : Int) < n := by omega
      have hw1 : IntKind.i64.wrap ((k : Int) + 1) = (k : Int) + 1 := by rw [IntKind.wrap_i64]; omega
      obtain ⟨i, hi⟩ : ∃ i, is[k]? = some i := ⟨_, List.getElem?_eq_getElem (by have := HN.out; omega)⟩
      have him := List.mem_of_getElem? hi
      obtain ⟨bb, oo, rfl, -, hbb, hok, hcs⟩ := (HA.out.later HX.out.2).at_ hi
      have c0 := hcs 0 _ rfl
      have c1 := hcs 1 _ rfl
      rw [Nat.add_zero] at c0
      change wr.cell? ⟨bb, oo + k * 2, none⟩ = _ at c0
      change wr.cell? ⟨bb, oo + k * 2 + 1, none⟩ = _ at c1
      have HT : Hid (((is.take (k + 1)).map codeBV).flatten = ((is.take k).map codeBV).flatten ++ codeBV i) := flat_next hi
      have HTL := Lib.hid (flat_some (f := codeBV) (is := is) (k + 1))
      have HF : Hid (∀ W : World, Below wr.heap.size wr W → Calls Try.prog 24 #[aCdV i] W (WPostR (codeBV i) W)) := fun W (hW : Below wr.heap.size wr W) => (qCod i W ((KCd).later hok hW) (HP.out i him)).mono fun _ _ h9 => WPost.r h9 (HI.out i him)
      have HIi : Hid (IsBytes (codeBV i)) := HI.out i him
      generalize hab : codeBV i = ys at *
      clear hcs hok hi him hab
      obtain ⟨lsx, lA, lc, isb, Ab, cb⟩ := i
      simp only [aCdV, BV.v] at *
      generalize hql2e : lsx.length = ql2 at *
      clear hql2e
      generalize hqbe : isb.length = qb at *
      clear hqbe
      have hbA := (Below.refl wr.heap.size wr).alloc (Nat.le_refl _) (.cells #[.slice lA ql2 lc, .slice Ab qb cb] 48)
      have HFF := Lib.hid (HF.out _ hbA)
      have HVX := Lib.hid (HX.out.1.later hbA)
      have HBA := Lib.hid (HX.out.2.trans (hbA.mono HX.out.2.size))
      skip
      clear hbA HF
      go_wp2_with fail
      refine HFF.out.mono ?_
      rintro e w2 ⟨v2, rfl, ho, hb⟩
      obtain ⟨B, d, rfl, -, -, hr⟩ := ho
      have H2 := Lib.hid (And.intro hr.rd (And.intro (HBA.out.trans (hb.mono HBA.out.size)) (HVX.out.later hb)))
      clear hb hr HFF HVX c0 c1
      generalize hql : ys.length = ql at *
      have HQL := Lib.hid hql
      clear hql
      have LN := Lib.hid (encU_len (n : Int))
      go_wp2_with (at_builtin; refine wpList_app rfl (.tmp 17) (.tmp 20) rfl w.heap.size u5 _ rfl H2.out.2.2 B ql d ys rfl HQL.out.symm H2.out.1 (by have h1 := HTL.out; have h2 := HBL.out; have h3 := LN.out; rw [HT.out] at h1; simp only [List.length_append] at h1 ⊢; have := HQL.out; omega) H2.out.2.1.size ?_; intro v3 w3 hv3 hb3; have H3 := Lib.hid (And.intro hv3 hb3); clear hv3 hb3)
      have hs3 := (H2.out.2.1.trans H3.out.2).size
      go_wp2
      refine ⟨⟨k + 1, by omega, by push_cast; rfl, hs3, ?_, H2.out.2.1.trans H3.out.2⟩, by simp [intOf]; omega⟩
      rw [HT.out, ← List.append_assoc]
      exact H3.out.1
    · obtain rfl : k = n := by omega
      have hnl : ¬ (k : Int) < k := by omega
      go_wp2
      go_ret
      refine ⟨_, rfl, ?_, HX.out.2⟩
      unfold cntB
      rw [List.length_map, ← HN.out]
      have h9 := HX.out.1
      rwa [List.take_of_length_le (by have := HN.out; omega)] at h9
set_option maxHeartbeats 2000000 in
theorem alsCod_any {X : Nat → Prop} (id : Int) (A : Option Addr) (n c : Nat) (is : List CV) (w : World) (i0 : 0 ≤ id) (i1 : id ≤ 255) (h : RdE KCd X w (.slice A n c) is) (hn : n = is.length) (hm : n ≤ 1000) (hb : (is.map codeBV).flatten.length ≤ 70000000) (hI : ∀ i ∈ is, IsBytes (codeBV i)) (hp : ∀ i ∈ is, CdOk i) :
    Calls Try.prog 23 #[.int .u8 id, .func (.func 24) #[] #[], .slice A n c] w (WPost (lsB id (is.map codeBV)) w) := by
  by_cases h0 : n = 0
  · have hz : ((n : Int) == 0) = true := by simp; omega
    have HE : Hid (lsB id (is.map codeBV) = []) := by unfold Hid lsB; rw [if_pos (by rw [List.map_eq_nil_iff]; exact List.length_eq_zero_iff.1 (by omega))]
    clear h hn hb hI
    go_enter Try.func23, Try.ntmps23
    go_wp2
    go_ret
    exact ⟨_, rfl, by rw [HE.out]; exact OwnB.nil _ _, Below.refl _ _⟩
  · have hz : ((n : Int) == 0) = false := by simp; omega
    have HE : Hid (lsB id (is.map codeBV) = id :: szB (cntB (is.map codeBV))) := by unfold Hid lsB; rw [if_neg (by rw [List.map_eq_nil_iff]; intro e; subst e; simp at hn; omega)]
    have HC := Lib.hid (cntCod_any A n c is w h hn hm (by omega) hI hp)
    have HI := Lib.hid (cntB_is (ys := is.map codeBV) (fun y hy => by obtain ⟨i, hi, rfl⟩ := List.mem_map.1 hy; exact hI i hi) (by simp; omega))
    have HL := Lib.hid (And.intro (cntB_len (ys := is.map codeBV)) hb)
    clear h hn hb hI
    go_enter Try.func23, Try.ntmps23
    go_wp2_with fail
    refine HC.out.mono ?_
    rintro e w1 ⟨v, rfl, ho, hb⟩
    obtain ⟨B, d, rfl, hd1, hd2, hr⟩ := ho.rdX HI.out
    have HS := Lib.hid (asection_any id B _ d _ w1 i0 i1 hr rfl hd1 hd2 (by have := HL.out; omega))
    have H1 := Lib.hid hb
    clear ho hb hr hd1 hd2 HC
    generalize (cntB (is.map codeBV)).length = q at *
    go_wp2_with fail
    refine HS.out.mono ?_
    rintro e w2 ⟨v, rfl, ho, hb⟩
    have H2 := Lib.hid (And.intro ho hb)
    clear ho hb
    go_wp2
    go_ret
    exact ⟨_, rfl, by rw [HE.out]; exact H2.out.1.base H1.out.size, H1.out.trans (H2.out.2.mono H1.out.size)⟩
set_option maxHeartbeats 2000000 in
theorem cntDat_any {X : Nat → Prop} (A : Option Addr) (n c : Nat) (is : List DV) (w : World) (h : RdE KDt X w (.slice A n c) is) (hn : n = is.length) (hm : n ≤ 1000) (hb : (is.map dataBV).flatten.length ≤ 90000000) (hI : ∀ i ∈ is, IsBytes (dataBV i)) (hp : ∀ i ∈ is, DtOk i) :
    Calls Try.prog 47 #[.func (.func 26) #[] #[], .slice A n c] w (WPost (cntB (is.map dataBV)) w) := by
  have HA := Lib.hid h
  have HN := Lib.hid hn
  have HI := Lib.hid hI
  have HBL := Lib.hid hb
  have HP := Lib.hid hp
  clear hp
  have HC := Lib.hid (anumI_any (n : Int) w (by omega) (by omega))
  clear h hn hI hb
  go_enter Try.func47, Try.ntmps47
  go_wp2_with fail
  refine HC.out.mono ?_
  rintro e w1 ⟨v, rfl, ho, hb1⟩
  have H1 := Lib.hid (And.intro ho hb1)
  have hs1 := hb1.size
  clear ho hb1 HC
  go_wp2
  go_loopw [5, 7, 13] (fun v _ i wr => ∃ (k : Nat), k ≤ n ∧ i = .int .i64 k ∧ w.heap.size ≤ wr.heap.size ∧ Hid (OwnB wr w.heap.size v (encU (n : Int) ++ ((is.take k).map dataBV).flatten) ∧ Below w.heap.size w wr)) (fun _ _ i _ => n - (intOf i).toNat)
  case atStart => exact ⟨0, by omega, rfl, hs1, by simpa using H1.out.1, H1.out.2⟩
  case round =>
    obtain ⟨k, hk, rfl, hsz, HX⟩ := hrel
    by_cases hlt : k < n
    · have hlt2 : (k : Int) < n := by omega
      have hw1 : IntKind.i64.wrap ((k : Int) + 1) = (k : Int) + 1 := by rw [IntKind.wrap_i64]; omega
      obtain ⟨i, hi⟩ : ∃ i, is[k]? = some i := ⟨_, List.getElem?_eq_getElem (by have := HN.out; omega)⟩
      have him := List.mem_of_getElem? hi
      obtain ⟨bb, oo, rfl, -, hbb, hok, hcs⟩ := (HA.out.later HX.out.2).at_ hi
      have c0 := hcs 0 _ rfl
      have c1 := hcs 1 _ rfl
      have c2 := hcs 2 _ rfl
      rw [Nat.add_zero] at c0
      change wr.cell? ⟨bb, oo + k * 3, none⟩ = _ at c0
      change wr.cell? ⟨bb, oo + k * 3 + 1, none⟩ = _ at c1
      change wr.cell? ⟨bb, oo + k * 3 + 2, none⟩ = _ at c2
      have HT : Hid (((is.take (k + 1)).map dataBV).flatten = ((is.take k).map dataBV).flatten ++ dataBV i) := flat_next hi
      have HTL := Lib.hid (flat_some (f := dataBV) (is := is) (k + 1))
      have HF : Hid (∀ W : World, Below wr.heap.size wr W → Calls Try.prog 26 #[aDtV i] W (WPostR (dataBV i) W)) := fun W (hW : Below wr.heap.size wr W) => (qDat i W ((KDt).later hok hW) (HP.out i him)).mono fun _ _ h9 => WPost.r h9 (HI.out i him)
      have HIi : Hid (IsBytes (dataBV i)) := HI.out i him
      generalize hab : dataBV i = ys at *
      clear hcs hok hi him hab
      obtain ⟨md, ⟨isb, Ab, cb⟩, ysx, yA, yc⟩ := i
      simp only [aDtV, BV.v] at *
      generalize hqbe : isb.length = qb at *
      clear hqbe
      generalize hqye : ysx.length = qy at *
      clear hqye
      have hbA := (Below.refl wr.heap.size wr).alloc (Nat.le_refl _) (.cells #[.int .u8 md, .slice Ab qb cb, .slice yA qy yc] 46)
      have HFF := Lib.hid (HF.out _ hbA)
      have HVX := Lib.hid (HX.out.1.later hbA)
      have HBA := Lib.hid (HX.out.2.trans (hbA.mono HX.out.2.size))
      skip
      clear hbA HF
      go_wp2_with fail
      refine HFF.out.mono ?_
      rintro e w2 ⟨v2, rfl, ho, hb⟩
      obtain ⟨B, d, rfl, -, -, hr⟩ := ho
      have H2 := Lib.hid (And.intro hr.rd (And.intro (HBA.out.trans (hb.mono HBA.out.size)) (HVX.out.later hb)))
      clear hb hr HFF HVX c0 c1 c2
      generalize hql : ys.length = ql at *
      have HQL := Lib.hid hql
      clear hql
      have LN := Lib.hid (encU_len (n : Int))
      go_wp2_with (at_builtin; refine wpList_app rfl (.tmp 17) (.tmp 20) rfl w.heap.size u5 _ rfl H2.out.2.2 B ql d ys rfl HQL.out.symm H2.out.1 (by have h1 := HTL.out; have h2 := HBL.out; have h3 := LN.out; rw [HT.out] at h1; simp only [List.length_append] at h1 ⊢; have := HQL.out; omega) H2.out.2.1.size ?_; intro v3 w3 hv3 hb3; have H3 := Lib.hid (And.intro hv3 hb3); clear hv3 hb3)
      have hs3 := (H2.out.2.1.trans H3.out.2).size
      go_wp2
      refine ⟨⟨k + 1, by omega, by push_cast; rfl, hs3, ?_, H2.out.2.1.trans H3.out.2⟩, by simp [intOf]; omega⟩
      rw [HT.out, ← List.append_assoc]
      exact H3.out.1
    · obtain rfl : k = n := by omega
      have hnl : ¬ (k : Int) < k := by omega
      go_wp2
      go_ret
      refine ⟨_, rfl, ?_, HX.out.2⟩
      unfold cntB
      rw [List.length_map, ← HN.out]
      have h9 := HX.out.1
      rwa [List.take_of_length_le (by have := HN.out; omega)] at h9
set_option maxHeartbeats 2000000 in
theorem alsDat_any {X : Nat → Prop} (id : Int) (A : Option Addr) (n c : Nat) (is : List DV) (w : World) (i0 : 0 ≤ id) (i1 : id ≤ 255) (h : RdE KDt X w (.slice A n c) is) (hn : n = is.length) (hm : n ≤ 1000) (hb : (is.map dataBV).flatten.length ≤ 70000000) (hI : ∀ i ∈ is, IsBytes (dataBV i)) (hp : ∀ i ∈ is, DtOk i) :
    Calls Try.prog 25 #[.int .u8 id, .func (.func 26) #[] #[], .slice A n c] w (WPost (lsB id (is.map dataBV)) w) := by
  by_cases h0 : n = 0
  · have hz : ((n : Int) == 0) = true := by simp; omega
    have HE : Hid (lsB id (is.map dataBV) = []) := by unfold Hid lsB; rw [if_pos (by rw [List.map_eq_nil_iff]; exact List.length_eq_zero_iff.1 (by omega))]
    clear h hn hb hI
    go_enter Try.func25, Try.ntmps25
    go_wp2
    go_ret
    exact ⟨_, rfl, by rw [HE.out]; exact OwnB.nil _ _, Below.refl _ _⟩
  · have hz : ((n : Int) == 0) = false := by simp; omega
    have HE : Hid (lsB id (is.map dataBV) = id :: szB (cntB (is.map dataBV))) := by unfold Hid lsB; rw [if_neg (by rw [List.map_eq_nil_iff]; intro e; subst e; simp at hn; omega)]
    have HC := Lib.hid (cntDat_any A n c is w h hn hm (by omega) hI hp)
    have HI := Lib.hid (cntB_is (ys := is.map dataBV) (fun y hy => by obtain ⟨i, hi, rfl⟩ := List.mem_map.1 hy; exact hI i hi) (by simp; omega))
    have HL := Lib.hid (And.intro (cntB_len (ys := is.map dataBV)) hb)
    clear h hn hb hI
    go_enter Try.func25, Try.ntmps25
    go_wp2_with fail
    refine HC.out.mono ?_
    rintro e w1 ⟨v, rfl, ho, hb⟩
    obtain ⟨B, d, rfl, hd1, hd2, hr⟩ := ho.rdX HI.out
    have HS := Lib.hid (asection_any id B _ d _ w1 i0 i1 hr rfl hd1 hd2 (by have := HL.out; omega))
    have H1 := Lib.hid hb
    clear ho hb hr hd1 hd2 HC
    generalize (cntB (is.map dataBV)).length = q at *
    go_wp2_with fail
    refine HS.out.mono ?_
    rintro e w2 ⟨v, rfl, ho, hb⟩
    have H2 := Lib.hid (And.intro ho hb)
    clear ho hb
    go_wp2
    go_ret
    exact ⟨_, rfl, by rw [HE.out]; exact H2.out.1.base H1.out.size, H1.out.trans (H2.out.2.mono H1.out.size)⟩
end Go.Proofs.Ytdngkbagfaeplaa

/- asm.Put: a module's bytes. (Written by gen_AsmPut.py.) -/
namespace Go.Proofs.Ytdngkbagfaeplaa
open Go.RowKit
set_option maxRecDepth 100000
set_option linter.unusedVariables false

def aMV (m : MV) : Value := .agg m.cells.toArray
theorem fn_is {X : Nat → Prop} {W : World} {a : FV} (h : KFn.ok X W a) (hp : FnOk a) : IsBytes (putFnV a) :=
  .cons (by omega) (by omega) ((encU_is _ (by omega) (by have := hp.1; show (a.ps.length : Int) < _; omega)).app (h.1.1.app ((encU_is _ (by omega) (by have := hp.2; show (a.rs.length : Int) < _; omega)).app h.2.2.2.1.1)))
theorem u_is {X : Nat → Prop} {W : World} {a : Int} (h : K32.ok X W a) : IsBytes (encU a) := encU_is a h.1 (by have := h.2; omega)
theorem limv_is {X : Nat → Prop} {W : World} {a : Lim} (h : KLim.ok X W a) : IsBytes (putLim a) := lim_is (Lim.In.ok h)
theorem tab_is {X : Nat → Prop} {W : World} {a : TabS} (h : KTab.ok X W a) : IsBytes (tabB a) := .cons h.1 h.2.1 (lim_is (Lim.In.ok h.2.2))
theorem glob_is {X : Nat → Prop} {W : World} {a : GV} (h : KGl.ok X W a) (hp : GlOk a) : IsBytes (globBV a) := .cons h.1 h.2.1 (.cons (bit_rng _).1 (bit_rng _).2 (BV.enc h.2.2 hp).1)
theorem cod_is {X : Nat → Prop} {W : World} {a : CV} (h : KCd.ok X W a) (hp : CdOk a) : IsBytes (codeBV a) := by
  have hi2 := BV.enc h.2.2.2.2 hp
  have hl := locB_len a.ls
  have hl1 := cntB_len (ys := a.ls.map locB)
  have hi1 := cntB_is (ys := a.ls.map locB) (fun y hy => by obtain ⟨i, hi, rfl⟩ := List.mem_map.1 hy; exact locB_is h.1.1 i hi) (by simp; have := h.2.2.2.1; omega)
  refine szB_is (hi1.app hi2.1) ?_
  have := hi2.2
  have := h.2.2.2.1
  have e : (cntB (a.ls.map locB) ++ encBV a.b).length = (cntB (a.ls.map locB)).length + (encBV a.b).length := List.length_append
  show (cntB (a.ls.map locB) ++ encBV a.b).length ≤ _
  omega
theorem dat_is {X : Nat → Prop} {W : World} {a : DV} (h : KDt.ok X W a) (hp : DtOk a) : IsBytes (dataBV a) := by
  have h1 := (BV.enc h.2.1 hp).1
  have h2 := szB_is h.2.2.1.1 (by have := h.2.2.2.2.2; omega)
  unfold dataBV dataB
  split
  · exact .cons (by omega) (by omega) h2
  · exact .cons (by omega) (by omega) (h1.app h2)
theorem lsB_flat (id : Int) (ys : List (List Int)) : ys.flatten.length ≤ (lsB id ys).length := by
  unfold lsB
  split
  · rename_i h; subst h; simp
  · have h1 := cntB_ge (ys := ys); have h2 := szB_ge (y := cntB ys); simp only [List.length_cons]; omega
theorem lsB_is {id : Int} {ys : List (List Int)} (i0 : 0 ≤ id) (i1 : id ≤ 255) (h : ∀ y ∈ ys, IsBytes y) (hl : ys.length ≤ 1000) (hf : ys.flatten.length ≤ 70000000) : IsBytes (lsB id ys) := by
  unfold lsB
  split
  · exact IsBytes.nil
  · exact .cons i0 i1 (szB_is (cntB_is h (by omega)) (by have := cntB_len (ys := ys); omega))
theorem sgB_is {id : Int} {t : Bool} {v : Int} (i0 : 0 ≤ id) (i1 : id ≤ 255) (h0 : 0 ≤ v) (h1 : v < 4294967296) : IsBytes (sgB id t v) := by
  unfold sgB
  cases t
  · exact IsBytes.nil
  · exact .cons i0 i1 (szB_is (encU_is v h0 (by omega)) (by have := (encU_len v).2; omega))
/-- The bytes of a module as it lies. -/
def encMV (m : MV) : List Int := [0, 97, 115, 109, 1, 0, 0, 0] ++ (lsB 1 (m.t.l.map putFnV) ++ (lsB 3 (m.f.l.map encU) ++ (lsB 4 (m.b.l.map tabB) ++ (lsB 5 (m.m.l.map putLim) ++ (lsB 6 (m.g.l.map globBV) ++ (lsB 7 (m.x.l.map expB) ++ (sgB 8 m.s m.sn ++ (lsB 9 (m.e.l.map elemBV) ++ (sgB 12 m.k m.kn ++ (lsB 10 (m.c.l.map codeBV) ++ (lsB 11 (m.d.l.map dataBV))))))))))))
theorem encMV_mo (m : MV) : encMV m = encMo m.mo := by
  unfold encMV encMo MV.mo
  simp only [List.map_map]
  rfl
/-- What is asked of a module that is put. -/
structure PutOk (m : MV) : Prop where
  t : ∀ i ∈ m.t.l, FnOk i
  g : ∀ i ∈ m.g.l, GlOk i
  e : ∀ i ∈ m.e.l, ElOk i
  c : ∀ i ∈ m.c.l, CdOk i
  d : ∀ i ∈ m.d.l, DtOk i
  n : m.t.l.length ≤ 1000 ∧ m.f.l.length ≤ 1000 ∧ m.b.l.length ≤ 1000 ∧ m.m.l.length ≤ 1000 ∧ m.g.l.length ≤ 1000 ∧ m.x.l.length ≤ 1000 ∧ m.e.l.length ≤ 1000 ∧ m.c.l.length ≤ 1000 ∧ m.d.l.length ≤ 1000
  all : (encMV m).length ≤ 60000000
set_option maxHeartbeats 64000000 in
theorem aput_any {X : Nat → Prop} (m : MV) (W : World) (h : MV.ok X W m) (hp : PutOk m)
    (HX : ∀ W' : World, MV.ok X W' m → Calls Try.prog 18 #[.int .u8 7, .func (.func 19) #[] #[], m.x.v] W' (WPost (lsB 7 (m.x.l.map expB)) W')) (hxI : IsBytes (lsB 7 (m.x.l.map expB))) :
    Calls Try.prog 5 #[aMV m] W (WPostR (encMV m) W) := by
  have hb0 := bl2 W (.cells m.cells.toArray 37)
  have hall := hp.all
  unfold encMV at hall
  simp only [List.length_append] at hall
  have hW : ∀ W' : World, Below (W.alloc (.cells m.cells.toArray 37)).heap.size (W.alloc (.cells m.cells.toArray 37)) W' → MV.ok X W' m := fun W' hw => MV.ok.chg h (S := fun _ => False) (Chg.of_below (blT hb0 hw)) fun _ _ _ => id
  have hl1 := lsB_flat 1 (m.t.l.map putFnV)
  have hI1 : ∀ i ∈ m.t.l, IsBytes (putFnV i) := fun i hi => fn_is (X := X) (W := W) (by obtain ⟨_, _, _, _, _, _, h5⟩ := h.t; exact h5 i hi) (hp.t i hi)
  have C1 : Hid (∀ W' : World, Below (W.alloc (.cells m.cells.toArray 37)).heap.size (W.alloc (.cells m.cells.toArray 37)) W' → Calls Try.prog 8 #[.int .u8 1, .func (.func 9) #[] #[], m.t.v] W' (WPost (lsB 1 (m.t.l.map putFnV)) W')) := fun W' hw => alsFn_any 1 m.t.A _ m.t.c m.t.l W' (by omega) (by omega) (hW W' hw).t rfl hp.n.1 (by omega) hI1 hp.t
  have I1 : Hid (IsBytes (lsB 1 (m.t.l.map putFnV))) := lsB_is (by omega) (by omega) (fun y hy => by obtain ⟨i, hi, rfl⟩ := List.mem_map.1 hy; exact hI1 i hi) (by rw [List.length_map]; exact hp.n.1) (by omega)
  have hl2 := lsB_flat 3 (m.f.l.map encU)
  have hI2 : ∀ i ∈ m.f.l, IsBytes (encU i) := fun i hi => u_is (X := X) (W := W) (by obtain ⟨_, _, _, _, _, _, h5⟩ := h.f; exact h5 i hi)
  have C2 : Hid (∀ W' : World, Below (W.alloc (.cells m.cells.toArray 37)).heap.size (W.alloc (.cells m.cells.toArray 37)) W' → Calls Try.prog 10 #[.int .u8 3, .func (.func 11) #[] #[], m.f.v] W' (WPost (lsB 3 (m.f.l.map encU)) W')) := fun W' hw => alsU_any 3 m.f.A _ m.f.c m.f.l W' (by omega) (by omega) (hW W' hw).f rfl hp.n.2.1 (by omega) hI2
  have I2 : Hid (IsBytes (lsB 3 (m.f.l.map encU))) := lsB_is (by omega) (by omega) (fun y hy => by obtain ⟨i, hi, rfl⟩ := List.mem_map.1 hy; exact hI2 i hi) (by rw [List.length_map]; exact hp.n.2.1) (by omega)
  have hl3 := lsB_flat 4 (m.b.l.map tabB)
  have hI3 : ∀ i ∈ m.b.l, IsBytes (tabB i) := fun i hi => tab_is (X := X) (W := W) (by obtain ⟨_, _, _, _, _, _, h5⟩ := h.b; exact h5 i hi)
  have C3 : Hid (∀ W' : World, Below (W.alloc (.cells m.cells.toArray 37)).heap.size (W.alloc (.cells m.cells.toArray 37)) W' → Calls Try.prog 12 #[.int .u8 4, .func (.func 13) #[] #[], m.b.v] W' (WPost (lsB 4 (m.b.l.map tabB)) W')) := fun W' hw => alsTab_any 4 m.b.A _ m.b.c m.b.l W' (by omega) (by omega) (hW W' hw).b rfl hp.n.2.2.1 (by omega) hI3
  have I3 : Hid (IsBytes (lsB 4 (m.b.l.map tabB))) := lsB_is (by omega) (by omega) (fun y hy => by obtain ⟨i, hi, rfl⟩ := List.mem_map.1 hy; exact hI3 i hi) (by rw [List.length_map]; exact hp.n.2.2.1) (by omega)
  have hl4 := lsB_flat 5 (m.m.l.map putLim)
  have hI4 : ∀ i ∈ m.m.l, IsBytes (putLim i) := fun i hi => limv_is (X := X) (W := W) (by obtain ⟨_, _, _, _, _, _, h5⟩ := h.m; exact h5 i hi)
  have C4 : Hid (∀ W' : World, Below (W.alloc (.cells m.cells.toArray 37)).heap.size (W.alloc (.cells m.cells.toArray 37)) W' → Calls Try.prog 14 #[.int .u8 5, .func (.func 15) #[] #[], m.m.v] W' (WPost (lsB 5 (m.m.l.map putLim)) W')) := fun W' hw => alsLim_any 5 m.m.A _ m.m.c m.m.l W' (by omega) (by omega) (hW W' hw).m rfl hp.n.2.2.2.1 (by omega) hI4
  have I4 : Hid (IsBytes (lsB 5 (m.m.l.map putLim))) := lsB_is (by omega) (by omega) (fun y hy => by obtain ⟨i, hi, rfl⟩ := List.mem_map.1 hy; exact hI4 i hi) (by rw [List.length_map]; exact hp.n.2.2.2.1) (by omega)
  have hl5 := lsB_flat 6 (m.g.l.map globBV)
  have hI5 : ∀ i ∈ m.g.l, IsBytes (globBV i) := fun i hi => glob_is (X := X) (W := W) (by obtain ⟨_, _, _, _, _, _, h5⟩ := h.g; exact h5 i hi) (hp.g i hi)
  have C5 : Hid (∀ W' : World, Below (W.alloc (.cells m.cells.toArray 37)).heap.size (W.alloc (.cells m.cells.toArray 37)) W' → Calls Try.prog 16 #[.int .u8 6, .func (.func 17) #[] #[], m.g.v] W' (WPost (lsB 6 (m.g.l.map globBV)) W')) := fun W' hw => alsGlob_any 6 m.g.A _ m.g.c m.g.l W' (by omega) (by omega) (hW W' hw).g rfl hp.n.2.2.2.2.1 (by omega) hI5 hp.g
  have I5 : Hid (IsBytes (lsB 6 (m.g.l.map globBV))) := lsB_is (by omega) (by omega) (fun y hy => by obtain ⟨i, hi, rfl⟩ := List.mem_map.1 hy; exact hI5 i hi) (by rw [List.length_map]; exact hp.n.2.2.2.2.1) (by omega)
  have C6 : Hid (∀ W' : World, Below (W.alloc (.cells m.cells.toArray 37)).heap.size (W.alloc (.cells m.cells.toArray 37)) W' → Calls Try.prog 18 #[.int .u8 7, .func (.func 19) #[] #[], m.x.v] W' (WPost (lsB 7 (m.x.l.map expB)) W')) := fun W' hw => HX W' (hW W' hw)
  have I6 := Lib.hid hxI
  have C7 : Hid (∀ W' : World, Below (W.alloc (.cells m.cells.toArray 37)).heap.size (W.alloc (.cells m.cells.toArray 37)) W' → Calls Try.prog 20 #[.int .u8 8, .bool m.s, .int .u32 m.sn] W' (WPost (sgB 8 m.s m.sn) W')) := fun W' hw => asingle_any 8 m.s m.sn W' (by omega) (by omega) h.sn.1 h.sn.2
  have I7 : Hid (IsBytes (sgB 8 m.s m.sn)) := sgB_is (by omega) (by omega) h.sn.1 h.sn.2
  have hl8 := lsB_flat 9 (m.e.l.map elemBV)
  have hI8 : ∀ i ∈ m.e.l, IsBytes (elemBV i) := fun i hi => elm_is (X := X) (W := W) (by obtain ⟨_, _, _, _, _, _, h5⟩ := h.e; exact h5 i hi) (hp.e i hi)
  have C8 : Hid (∀ W' : World, Below (W.alloc (.cells m.cells.toArray 37)).heap.size (W.alloc (.cells m.cells.toArray 37)) W' → Calls Try.prog 21 #[.int .u8 9, .func (.func 22) #[] #[], m.e.v] W' (WPost (lsB 9 (m.e.l.map elemBV)) W')) := fun W' hw => alsElm_any 9 m.e.A _ m.e.c m.e.l W' (by omega) (by omega) (hW W' hw).e rfl hp.n.2.2.2.2.2.2.1 (by omega) hI8 hp.e
  have I8 : Hid (IsBytes (lsB 9 (m.e.l.map elemBV))) := lsB_is (by omega) (by omega) (fun y hy => by obtain ⟨i, hi, rfl⟩ := List.mem_map.1 hy; exact hI8 i hi) (by rw [List.length_map]; exact hp.n.2.2.2.2.2.2.1) (by omega)
  have C9 : Hid (∀ W' : World, Below (W.alloc (.cells m.cells.toArray 37)).heap.size (W.alloc (.cells m.cells.toArray 37)) W' → Calls Try.prog 20 #[.int .u8 12, .bool m.k, .int .u32 m.kn] W' (WPost (sgB 12 m.k m.kn) W')) := fun W' hw => asingle_any 12 m.k m.kn W' (by omega) (by omega) h.kn.1 h.kn.2
  have I9 : Hid (IsBytes (sgB 12 m.k m.kn)) := sgB_is (by omega) (by omega) h.kn.1 h.kn.2
  have hl10 := lsB_flat 10 (m.c.l.map codeBV)
  have hI10 : ∀ i ∈ m.c.l, IsBytes (codeBV i) := fun i hi => cod_is (X := X) (W := W) (by obtain ⟨_, _, _, _, _, _, h5⟩ := h.c; exact h5 i hi) (hp.c i hi)
  have C10 : Hid (∀ W' : World, Below (W.alloc (.cells m.cells.toArray 37)).heap.size (W.alloc (.cells m.cells.toArray 37)) W' → Calls Try.prog 23 #[.int .u8 10, .func (.func 24) #[] #[], m.c.v] W' (WPost (lsB 10 (m.c.l.map codeBV)) W')) := fun W' hw => alsCod_any 10 m.c.A _ m.c.c m.c.l W' (by omega) (by omega) (hW W' hw).c rfl hp.n.2.2.2.2.2.2.2.1 (by omega) hI10 hp.c
  have I10 : Hid (IsBytes (lsB 10 (m.c.l.map codeBV))) := lsB_is (by omega) (by omega) (fun y hy => by obtain ⟨i, hi, rfl⟩ := List.mem_map.1 hy; exact hI10 i hi) (by rw [List.length_map]; exact hp.n.2.2.2.2.2.2.2.1) (by omega)
  have hl11 := lsB_flat 11 (m.d.l.map dataBV)
  have hI11 : ∀ i ∈ m.d.l, IsBytes (dataBV i) := fun i hi => dat_is (X := X) (W := W) (by obtain ⟨_, _, _, _, _, _, h5⟩ := h.d; exact h5 i hi) (hp.d i hi)
  have C11 : Hid (∀ W' : World, Below (W.alloc (.cells m.cells.toArray 37)).heap.size (W.alloc (.cells m.cells.toArray 37)) W' → Calls Try.prog 25 #[.int .u8 11, .func (.func 26) #[] #[], m.d.v] W' (WPost (lsB 11 (m.d.l.map dataBV)) W')) := fun W' hw => alsDat_any 11 m.d.A _ m.d.c m.d.l W' (by omega) (by omega) (hW W' hw).d rfl hp.n.2.2.2.2.2.2.2.2 (by omega) hI11 hp.d
  have I11 : Hid (IsBytes (lsB 11 (m.d.l.map dataBV))) := lsB_is (by omega) (by omega) (fun y hy => by obtain ⟨i, hi, rfl⟩ := List.mem_map.1 hy; exact hI11 i hi) (by rw [List.length_map]; exact hp.n.2.2.2.2.2.2.2.2) (by omega)
  have LEN : Hid ([[0, 97, 115, 109, 1, 0, 0, 0], lsB 1 (m.t.l.map putFnV), lsB 3 (m.f.l.map encU), lsB 4 (m.b.l.map tabB), lsB 5 (m.m.l.map putLim), lsB 6 (m.g.l.map globBV), lsB 7 (m.x.l.map expB), sgB 8 m.s m.sn, lsB 9 (m.e.l.map elemBV), sgB 12 m.k m.kn, lsB 10 (m.c.l.map codeBV), lsB 11 (m.d.l.map dataBV)].flatten.length ≤ 100000000) := by unfold Hid; simp only [List.flatten_cons, List.flatten_nil, List.length_append, List.length_nil]; omega
  have EQ : Hid ([[0, 97, 115, 109, 1, 0, 0, 0], lsB 1 (m.t.l.map putFnV), lsB 3 (m.f.l.map encU), lsB 4 (m.b.l.map tabB), lsB 5 (m.m.l.map putLim), lsB 6 (m.g.l.map globBV), lsB 7 (m.x.l.map expB), sgB 8 m.s m.sn, lsB 9 (m.e.l.map elemBV), sgB 12 m.k m.kn, lsB 10 (m.c.l.map codeBV), lsB 11 (m.d.l.map dataBV)].flatten = encMV m) := by unfold Hid encMV; simp only [List.flatten_cons, List.flatten_nil, List.append_nil]
  have IR : Hid (IsBytes [[0, 97, 115, 109, 1, 0, 0, 0], lsB 1 (m.t.l.map putFnV), lsB 3 (m.f.l.map encU), lsB 4 (m.b.l.map tabB), lsB 5 (m.m.l.map putLim), lsB 6 (m.g.l.map globBV), lsB 7 (m.x.l.map expB), sgB 8 m.s m.sn, lsB 9 (m.e.l.map elemBV), sgB 12 m.k m.kn, lsB 10 (m.c.l.map codeBV), lsB 11 (m.d.l.map dataBV)].flatten) := by unfold Hid; exact flat_is (fun y hy => by simp only [List.mem_cons, List.not_mem_nil, or_false] at hy; rcases hy with rfl | rfl | rfl | rfl | rfl | rfl | rfl | rfl | rfl | rfl | rfl | rfl; exact (fun z hz => by simp at hz; omega); exact I1.out; exact I2.out; exact I3.out; exact I4.out; exact I5.out; exact I6.out; exact I7.out; exact I8.out; exact I9.out; exact I10.out; exact I11.out)
  have KS0 : Hid (∀ W' : World, Below (W.alloc (.cells m.cells.toArray 37)).heap.size (W.alloc (.cells m.cells.toArray 37)) W' → W'.cell? ⟨W.heap.size, 0, none⟩ = some (m.t.v) ∧ W'.cell? ⟨W.heap.size, 1, none⟩ = some (m.f.v) ∧ W'.cell? ⟨W.heap.size, 2, none⟩ = some (m.b.v) ∧ W'.cell? ⟨W.heap.size, 3, none⟩ = some (m.m.v) ∧ W'.cell? ⟨W.heap.size, 4, none⟩ = some (m.g.v) ∧ W'.cell? ⟨W.heap.size, 5, none⟩ = some (m.x.v) ∧ W'.cell? ⟨W.heap.size, 6, none⟩ = some (.bool m.s) ∧ W'.cell? ⟨W.heap.size, 7, none⟩ = some (.int .u32 m.sn) ∧ W'.cell? ⟨W.heap.size, 8, none⟩ = some (m.e.v) ∧ W'.cell? ⟨W.heap.size, 9, none⟩ = some (.bool m.k) ∧ W'.cell? ⟨W.heap.size, 10, none⟩ = some (.int .u32 m.kn) ∧ W'.cell? ⟨W.heap.size, 11, none⟩ = some (m.c.v) ∧ W'.cell? ⟨W.heap.size, 12, none⟩ = some (m.d.v)) := fun W' hw => by
    have ho := (Own.new W 37 m.cells).later hw
    exact ⟨ho.cell 0, ho.cell 1, ho.cell 2, ho.cell 3, ho.cell 4, ho.cell 5, ho.cell 6, ho.cell 7, ho.cell 8, ho.cell 9, ho.cell 10, ho.cell 11, ho.cell 12⟩
  have HB0 := Lib.hid hb0
  clear h hp hb0 hall hW HX hxI hl1 hI1 hl2 hI2 hl3 hI3 hl4 hI4 hl5 hI5 hl8 hI8 hl10 hI10 hl11 hI11
  generalize hz1 : lsB 1 (m.t.l.map putFnV) = y1 at *
  clear hz1
  generalize hz2 : lsB 3 (m.f.l.map encU) = y2 at *
  clear hz2
  generalize hz3 : lsB 4 (m.b.l.map tabB) = y3 at *
  clear hz3
  generalize hz4 : lsB 5 (m.m.l.map putLim) = y4 at *
  clear hz4
  generalize hz5 : lsB 6 (m.g.l.map globBV) = y5 at *
  clear hz5
  generalize hz6 : lsB 7 (m.x.l.map expB) = y6 at *
  clear hz6
  generalize hz7 : sgB 8 m.s m.sn = y7 at *
  clear hz7
  generalize hz8 : lsB 9 (m.e.l.map elemBV) = y8 at *
  clear hz8
  generalize hz9 : sgB 12 m.k m.kn = y9 at *
  clear hz9
  generalize hz10 : lsB 10 (m.c.l.map codeBV) = y10 at *
  clear hz10
  generalize hz11 : lsB 11 (m.d.l.map dataBV) = y11 at *
  clear hz11
  generalize hzr : encMV m = yr at *
  clear hzr
  obtain ⟨⟨tA, tc, tl⟩, ⟨fA, fc, fl⟩, ⟨bA, bc, bl⟩, ⟨mA, mc, ml⟩, ⟨gA, gc, gl⟩, ⟨xA, xc, xl⟩, st, sn, ⟨eA, ec, el⟩, kk, kn, ⟨cA, cc, cl⟩, ⟨dA, dc, dl⟩⟩ := m
  simp only [aMV, MV.cells, LV.v] at *
  generalize hnt : tl.length = nt at *
  clear hnt
  generalize hnf : fl.length = nf at *
  clear hnf
  generalize hnb : bl.length = nb at *
  clear hnb
  generalize hnm : ml.length = nm at *
  clear hnm
  generalize hng : gl.length = ng at *
  clear hng
  generalize hnx : xl.length = nx at *
  clear hnx
  generalize hne : el.length = ne at *
  clear hne
  generalize hnc : cl.length = nc at *
  clear hnc
  generalize hnd : dl.length = nd at *
  clear hnd
  go_enter Try.func5, Try.ntmps5
  go_upto_region 1 with fail
  have KS := KS0
  clear KS0
  generalize W.alloc (.cells #[.slice tA nt tc, .slice fA nf fc, .slice bA nb bc, .slice mA nm mc, .slice gA ng gc, .slice xA nx xc, .bool st, .int .u32 sn, .slice eA ne ec, .bool kk, .int .u32 kn, .slice cA nc cc, .slice dA nd dc] 37) = w1 at *
  refine wp_posts (D := fun d => List.getD [poT, (poE (.pointer (some ⟨W.heap.size, 0, none⟩))), (poS [[0, 97, 115, 109, 1, 0, 0, 0], y1, y2, y3, y4, y5, y6, y7, y8, y9, y10, y11].flatten), (poM w1.heap.size 8 [0, 97, 115, 109, 1, 0, 0, 0]), (poS [0, 97, 115, 109, 1, 0, 0, 0]), (poE (.pointer (some ⟨W.heap.size, 0, none⟩))), (poE (.slice tA nt tc)), (poS y1), (poE (.pointer (some ⟨W.heap.size, 1, none⟩))), (poE (.slice fA nf fc)), (poS y2), (poE (.pointer (some ⟨W.heap.size, 2, none⟩))), (poE (.slice bA nb bc)), (poS y3), (poE (.pointer (some ⟨W.heap.size, 3, none⟩))), (poE (.slice mA nm mc)), (poS y4), (poE (.pointer (some ⟨W.heap.size, 4, none⟩))), (poE (.slice gA ng gc)), (poS y5), (poE (.pointer (some ⟨W.heap.size, 5, none⟩))), (poE (.slice xA nx xc)), (poS y6), (poE (.pointer (some ⟨W.heap.size, 6, none⟩))), (poE (.bool st)), (poE (.pointer (some ⟨W.heap.size, 7, none⟩))), (poE (.int .u32 sn)), (poS y7), (poE (.pointer (some ⟨W.heap.size, 8, none⟩))), (poE (.slice eA ne ec)), (poS y8), (poE (.pointer (some ⟨W.heap.size, 9, none⟩))), (poE (.bool kk)), (poE (.pointer (some ⟨W.heap.size, 10, none⟩))), (poE (.int .u32 kn)), (poS y9), (poE (.pointer (some ⟨W.heap.size, 11, none⟩))), (poE (.slice cA nc cc)), (poS y10), (poE (.pointer (some ⟨W.heap.size, 12, none⟩))), (poE (.slice dA nd dc)), (poS y11), (poL 12 [[0, 97, 115, 109, 1, 0, 0, 0], y1, y2, y3, y4, y5, y6, y7, y8, y9, y10, y11]), (poS [[0, 97, 115, 109, 1, 0, 0, 0], y1, y2, y3, y4, y5, y6, y7, y8, y9, y10, y11].flatten)] d poT) (B := w1.heap.size) (N := 44) (known := [1]) (need := fun i => List.getD [[], [3], [1], [5], [6], [1], [8], [9], [1], [11], [12], [1], [14], [15], [1], [17], [18], [1], [20], [21], [1], [23], [1], [25], [24, 26], [1], [28], [29], [1], [31], [1], [33], [32, 34], [1], [36], [37], [1], [39], [40], [4, 7, 10, 13, 16, 19, 22, 27, 30, 35, 38, 41], [42], [43]] i []) (by kernel_rfl) (by kernel_rfl) (fun d => AllS.get [poT, (poE (.pointer (some ⟨W.heap.size, 0, none⟩))), (poS [[0, 97, 115, 109, 1, 0, 0, 0], y1, y2, y3, y4, y5, y6, y7, y8, y9, y10, y11].flatten), (poM w1.heap.size 8 [0, 97, 115, 109, 1, 0, 0, 0]), (poS [0, 97, 115, 109, 1, 0, 0, 0]), (poE (.pointer (some ⟨W.heap.size, 0, none⟩))), (poE (.slice tA nt tc)), (poS y1), (poE (.pointer (some ⟨W.heap.size, 1, none⟩))), (poE (.slice fA nf fc)), (poS y2), (poE (.pointer (some ⟨W.heap.size, 2, none⟩))), (poE (.slice bA nb bc)), (poS y3), (poE (.pointer (some ⟨W.heap.size, 3, none⟩))), (poE (.slice mA nm mc)), (poS y4), (poE (.pointer (some ⟨W.heap.size, 4, none⟩))), (poE (.slice gA ng gc)), (poS y5), (poE (.pointer (some ⟨W.heap.size, 5, none⟩))), (poE (.slice xA nx xc)), (poS y6), (poE (.pointer (some ⟨W.heap.size, 6, none⟩))), (poE (.bool st)), (poE (.pointer (some ⟨W.heap.size, 7, none⟩))), (poE (.int .u32 sn)), (poS y7), (poE (.pointer (some ⟨W.heap.size, 8, none⟩))), (poE (.slice eA ne ec)), (poS y8), (poE (.pointer (some ⟨W.heap.size, 9, none⟩))), (poE (.bool kk)), (poE (.pointer (some ⟨W.heap.size, 10, none⟩))), (poE (.int .u32 kn)), (poS y9), (poE (.pointer (some ⟨W.heap.size, 11, none⟩))), (poE (.slice cA nc cc)), (poS y10), (poE (.pointer (some ⟨W.heap.size, 12, none⟩))), (poE (.slice dA nd dc)), (poS y11), (poL 12 [[0, 97, 115, 109, 1, 0, 0, 0], y1, y2, y3, y4, y5, y6, y7, y8, y9, y10, y11]), (poS [[0, 97, 115, 109, 1, 0, 0, 0], y1, y2, y3, y4, y5, y6, y7, y8, y9, y10, y11].flatten)] ⟨stT _, stE _ _, stS _ _, stM _ _ _, stS _ _, stE _ _, stE _ _, stS _ _, stE _ _, stE _ _, stS _ _, stE _ _, stE _ _, stS _ _, stE _ _, stE _ _, stS _ _, stE _ _, stE _ _, stS _ _, stE _ _, stE _ _, stS _ _, stE _ _, stE _ _, stE _ _, stE _ _, stS _ _, stE _ _, stE _ _, stS _ _, stE _ _, stE _ _, stE _ _, stE _ _, stS _ _, stE _ _, stE _ _, stS _ _, stE _ _, stE _ _, stS _ _, stL _ _ _, stS _ _, trivial⟩ d) rfl rfl ?_ ⟨?_, ?_, ?_, ?_, ?_, ?_, ?_, ?_, ?_, ?_, ?_, ?_, ?_, ?_, ?_, ?_, ?_, ?_, ?_, ?_, ?_, ?_, ?_, ?_, ?_, ?_, ?_, ?_, ?_, ?_, ?_, ?_, ?_, ?_, ?_, ?_, ?_, ?_, ?_, ?_, ?_, ?_, trivial⟩ ?_
  · intro s hs
    simp only [List.mem_singleton] at hs
    subst hs
    exact rfl
  · intro a w hw hs
    have hB := hw.size
    exact ob_build (vs := #[(0, .int .u8 0), (1, .int .u8 97), (2, .int .u8 115), (3, .int .u8 109), (4, .int .u8 1), (5, .int .u8 0), (6, .int .u8 0), (7, .int .u8 0)]) rfl (by simp only [List.map_toArray, List.map_cons, List.map_nil] <;> rfl) (run_byteL [0, 97, 115, 109, 1, 0, 0, 0] (by simp) (by simp) w) (Rg.of (bl2 w _) hB) (fun d hd => by injection hd with hd; subst hd; exact poM_new [0,97,115,109,1,0,0,0] (fun z hz => by simp at hz; omega) (by simp [maxLen]) hB)
  · intro a w hw hs
    have hB := hw.size
    obtain ⟨g, h1, h2, h3, h4⟩ := hs 3 (by decide)
    exact ob_conv rfl h1 (conv_shape h3 _ _) (Rg.frz h2) (fun d hd => by injection hd with hd; subst hd; rw [h1] at h4; exact h4.rg (Rg.frz h2))
  · intro a w hw hs
    have hB := hw.size
    have h1 : a.eval (.tmp 1) = .pointer (some ⟨W.heap.size, 0, none⟩) := hs 1 (by decide)
    exact ob_val (v := .pointer (some ⟨W.heap.size, 0, none⟩)) (by simp only [execOp]; rw [h1]; go_simp) (Rg.refl _ _) (fun d hd => by injection hd with hd; subst hd; exact rfl)
  · intro a w hw hs
    have hB := hw.size
    have h1 : a.eval (.tmp 5) = .pointer (some ⟨W.heap.size, 0, none⟩) := hs 5 (by decide)
    obtain ⟨e0, e1, e2, e3, e4, e5, e6, e7, e8, e9, e10, e11, e12⟩ := KS.out w hw
    exact ob_val (v := .slice tA nt tc) (by simp only [execOp]; rw [h1]; go_simp) (Rg.refl _ _) (fun d hd => by injection hd with hd; subst hd; exact rfl)
  · intro a w hw hs
    have hB := hw.size
    have h6 : a.eval (.tmp 6) = .slice tA nt tc := hs 6 (by decide)
    have k6 : a.tmps[6]?.getD undef = .slice tA nt tc := by rw [← Array.getD_eq_getD_getElem?]; exact h6
    exact ob_call (F := 8) (args := #[.int .u8 1, .func (.func 9) #[] #[], .slice tA nt tc]) (by simp only [execOp]; go_simp) (C1.out w hw) I1.out hB (fun A c w2 hS _ d hd => by injection hd with hd; subst hd; exact hS)
  · intro a w hw hs
    have hB := hw.size
    have h1 : a.eval (.tmp 1) = .pointer (some ⟨W.heap.size, 0, none⟩) := hs 1 (by decide)
    exact ob_val (v := .pointer (some ⟨W.heap.size, 1, none⟩)) (by simp only [execOp]; rw [h1]; go_simp) (Rg.refl _ _) (fun d hd => by injection hd with hd; subst hd; exact rfl)
  · intro a w hw hs
    have hB := hw.size
    have h1 : a.eval (.tmp 8) = .pointer (some ⟨W.heap.size, 1, none⟩) := hs 8 (by decide)
    obtain ⟨e0, e1, e2, e3, e4, e5, e6, e7, e8, e9, e10, e11, e12⟩ := KS.out w hw
    exact ob_val (v := .slice fA nf fc) (by simp only [execOp]; rw [h1]; go_simp) (Rg.refl _ _) (fun d hd => by injection hd with hd; subst hd; exact rfl)
  · intro a w hw hs
    have hB := hw.size
    have h9 : a.eval (.tmp 9) = .slice fA nf fc := hs 9 (by decide)
    have k9 : a.tmps[9]?.getD undef = .slice fA nf fc := by rw [← Array.getD_eq_getD_getElem?]; exact h9
    exact ob_call (F := 10) (args := #[.int .u8 3, .func (.func 11) #[] #[], .slice fA nf fc]) (by simp only [execOp]; go_simp) (C2.out w hw) I2.out hB (fun A c w2 hS _ d hd => by injection hd with hd; subst hd; exact hS)
  · intro a w hw hs
    have hB := hw.size
    have h1 : a.eval (.tmp 1) = .pointer (some ⟨W.heap.size, 0, none⟩) := hs 1 (by decide)
    exact ob_val (v := .pointer (some ⟨W.heap.size, 2, none⟩)) (by simp only [execOp]; rw [h1]; go_simp) (Rg.refl _ _) (fun d hd => by injection hd with hd; subst hd; exact rfl)
  · intro a w hw hs
    have hB := hw.size
    have h1 : a.eval (.tmp 11) = .pointer (some ⟨W.heap.size, 2, none⟩) := hs 11 (by decide)
    obtain ⟨e0, e1, e2, e3, e4, e5, e6, e7, e8, e9, e10, e11, e12⟩ := KS.out w hw
    exact ob_val (v := .slice bA nb bc) (by simp only [execOp]; rw [h1]; go_simp) (Rg.refl _ _) (fun d hd => by injection hd with hd; subst hd; exact rfl)
  · intro a w hw hs
    have hB := hw.size
    have h12 : a.eval (.tmp 12) = .slice bA nb bc := hs 12 (by decide)
    have k12 : a.tmps[12]?.getD undef = .slice bA nb bc := by rw [← Array.getD_eq_getD_getElem?]; exact h12
    exact ob_call (F := 12) (args := #[.int .u8 4, .func (.func 13) #[] #[], .slice bA nb bc]) (by simp only [execOp]; go_simp) (C3.out w hw) I3.out hB (fun A c w2 hS _ d hd => by injection hd with hd; subst hd; exact hS)
  · intro a w hw hs
    have hB := hw.size
    have h1 : a.eval (.tmp 1) = .pointer (some ⟨W.heap.size, 0, none⟩) := hs 1 (by decide)
    exact ob_val (v := .pointer (some ⟨W.heap.size, 3, none⟩)) (by simp only [execOp]; rw [h1]; go_simp) (Rg.refl _ _) (fun d hd => by injection hd with hd; subst hd; exact rfl)
  · intro a w hw hs
    have hB := hw.size
    have h1 : a.eval (.tmp 14) = .pointer (some ⟨W.heap.size, 3, none⟩) := hs 14 (by decide)
    obtain ⟨e0, e1, e2, e3, e4, e5, e6, e7, e8, e9, e10, e11, e12⟩ := KS.out w hw
    exact ob_val (v := .slice mA nm mc) (by simp only [execOp]; rw [h1]; go_simp) (Rg.refl _ _) (fun d hd => by injection hd with hd; subst hd; exact rfl)
  · intro a w hw hs
    have hB := hw.size
    have h15 : a.eval (.tmp 15) = .slice mA nm mc := hs 15 (by decide)
    have k15 : a.tmps[15]?.getD undef = .slice mA nm mc := by rw [← Array.getD_eq_getD_getElem?]; exact h15
    exact ob_call (F := 14) (args := #[.int .u8 5, .func (.func 15) #[] #[], .slice mA nm mc]) (by simp only [execOp]; go_simp) (C4.out w hw) I4.out hB (fun A c w2 hS _ d hd => by injection hd with hd; subst hd; exact hS)
  · intro a w hw hs
    have hB := hw.size
    have h1 : a.eval (.tmp 1) = .pointer (some ⟨W.heap.size, 0, none⟩) := hs 1 (by decide)
    exact ob_val (v := .pointer (some ⟨W.heap.size, 4, none⟩)) (by simp only [execOp]; rw [h1]; go_simp) (Rg.refl _ _) (fun d hd => by injection hd with hd; subst hd; exact rfl)
  · intro a w hw hs
    have hB := hw.size
    have h1 : a.eval (.tmp 17) = .pointer (some ⟨W.heap.size, 4, none⟩) := hs 17 (by decide)
    obtain ⟨e0, e1, e2, e3, e4, e5, e6, e7, e8, e9, e10, e11, e12⟩ := KS.out w hw
    exact ob_val (v := .slice gA ng gc) (by simp only [execOp]; rw [h1]; go_simp) (Rg.refl _ _) (fun d hd => by injection hd with hd; subst hd; exact rfl)
  · intro a w hw hs
    have hB := hw.size
    have h18 : a.eval (.tmp 18) = .slice gA ng gc := hs 18 (by decide)
    have k18 : a.tmps[18]?.getD undef = .slice gA ng gc := by rw [← Array.getD_eq_getD_getElem?]; exact h18
    exact ob_call (F := 16) (args := #[.int .u8 6, .func (.func 17) #[] #[], .slice gA ng gc]) (by simp only [execOp]; go_simp) (C5.out w hw) I5.out hB (fun A c w2 hS _ d hd => by injection hd with hd; subst hd; exact hS)
  · intro a w hw hs
    have hB := hw.size
    have h1 : a.eval (.tmp 1) = .pointer (some ⟨W.heap.size, 0, none⟩) := hs 1 (by decide)
    exact ob_val (v := .pointer (some ⟨W.heap.size, 5, none⟩)) (by simp only [execOp]; rw [h1]; go_simp) (Rg.refl _ _) (fun d hd => by injection hd with hd; subst hd; exact rfl)
  · intro a w hw hs
    have hB := hw.size
    have h1 : a.eval (.tmp 20) = .pointer (some ⟨W.heap.size, 5, none⟩) := hs 20 (by decide)
    obtain ⟨e0, e1, e2, e3, e4, e5, e6, e7, e8, e9, e10, e11, e12⟩ := KS.out w hw
    exact ob_val (v := .slice xA nx xc) (by simp only [execOp]; rw [h1]; go_simp) (Rg.refl _ _) (fun d hd => by injection hd with hd; subst hd; exact rfl)
  · intro a w hw hs
    have hB := hw.size
    have h21 : a.eval (.tmp 21) = .slice xA nx xc := hs 21 (by decide)
    have k21 : a.tmps[21]?.getD undef = .slice xA nx xc := by rw [← Array.getD_eq_getD_getElem?]; exact h21
    exact ob_call (F := 18) (args := #[.int .u8 7, .func (.func 19) #[] #[], .slice xA nx xc]) (by simp only [execOp]; go_simp) (C6.out w hw) I6.out hB (fun A c w2 hS _ d hd => by injection hd with hd; subst hd; exact hS)
  · intro a w hw hs
    have hB := hw.size
    have h1 : a.eval (.tmp 1) = .pointer (some ⟨W.heap.size, 0, none⟩) := hs 1 (by decide)
    exact ob_val (v := .pointer (some ⟨W.heap.size, 6, none⟩)) (by simp only [execOp]; rw [h1]; go_simp) (Rg.refl _ _) (fun d hd => by injection hd with hd; subst hd; exact rfl)
  · intro a w hw hs
    have hB := hw.size
    have h1 : a.eval (.tmp 23) = .pointer (some ⟨W.heap.size, 6, none⟩) := hs 23 (by decide)
    obtain ⟨e0, e1, e2, e3, e4, e5, e6, e7, e8, e9, e10, e11, e12⟩ := KS.out w hw
    exact ob_val (v := .bool st) (by simp only [execOp]; rw [h1]; go_simp) (Rg.refl _ _) (fun d hd => by injection hd with hd; subst hd; exact rfl)
  · intro a w hw hs
    have hB := hw.size
    have h1 : a.eval (.tmp 1) = .pointer (some ⟨W.heap.size, 0, none⟩) := hs 1 (by decide)
    exact ob_val (v := .pointer (some ⟨W.heap.size, 7, none⟩)) (by simp only [execOp]; rw [h1]; go_simp) (Rg.refl _ _) (fun d hd => by injection hd with hd; subst hd; exact rfl)
  · intro a w hw hs
    have hB := hw.size
    have h1 : a.eval (.tmp 25) = .pointer (some ⟨W.heap.size, 7, none⟩) := hs 25 (by decide)
    obtain ⟨e0, e1, e2, e3, e4, e5, e6, e7, e8, e9, e10, e11, e12⟩ := KS.out w hw
    exact ob_val (v := .int .u32 sn) (by simp only [execOp]; rw [h1]; go_simp) (Rg.refl _ _) (fun d hd => by injection hd with hd; subst hd; exact rfl)
  · intro a w hw hs
    have hB := hw.size
    have h24 : a.eval (.tmp 24) = .bool st := hs 24 (by decide)
    have k24 : a.tmps[24]?.getD undef = .bool st := by rw [← Array.getD_eq_getD_getElem?]; exact h24
    have h26 : a.eval (.tmp 26) = .int .u32 sn := hs 26 (by decide)
    have k26 : a.tmps[26]?.getD undef = .int .u32 sn := by rw [← Array.getD_eq_getD_getElem?]; exact h26
    exact ob_call (F := 20) (args := #[.int .u8 8, .bool st, .int .u32 sn]) (by simp only [execOp]; go_simp) (C7.out w hw) I7.out hB (fun A c w2 hS _ d hd => by injection hd with hd; subst hd; exact hS)
  · intro a w hw hs
    have hB := hw.size
    have h1 : a.eval (.tmp 1) = .pointer (some ⟨W.heap.size, 0, none⟩) := hs 1 (by decide)
    exact ob_val (v := .pointer (some ⟨W.heap.size, 8, none⟩)) (by simp only [execOp]; rw [h1]; go_simp) (Rg.refl _ _) (fun d hd => by injection hd with hd; subst hd; exact rfl)
  · intro a w hw hs
    have hB := hw.size
    have h1 : a.eval (.tmp 28) = .pointer (some ⟨W.heap.size, 8, none⟩) := hs 28 (by decide)
    obtain ⟨e0, e1, e2, e3, e4, e5, e6, e7, e8, e9, e10, e11, e12⟩ := KS.out w hw
    exact ob_val (v := .slice eA ne ec) (by simp only [execOp]; rw [h1]; go_simp) (Rg.refl _ _) (fun d hd => by injection hd with hd; subst hd; exact rfl)
  · intro a w hw hs
    have hB := hw.size
    have h29 : a.eval (.tmp 29) = .slice eA ne ec := hs 29 (by decide)
    have k29 : a.tmps[29]?.getD undef = .slice eA ne ec := by rw [← Array.getD_eq_getD_getElem?]; exact h29
    exact ob_call (F := 21) (args := #[.int .u8 9, .func (.func 22) #[] #[], .slice eA ne ec]) (by simp only [execOp]; go_simp) (C8.out w hw) I8.out hB (fun A c w2 hS _ d hd => by injection hd with hd; subst hd; exact hS)
  · intro a w hw hs
    have hB := hw.size
    have h1 : a.eval (.tmp 1) = .pointer (some ⟨W.heap.size, 0, none⟩) := hs 1 (by decide)
    exact ob_val (v := .pointer (some ⟨W.heap.size, 9, none⟩)) (by simp only [execOp]; rw [h1]; go_simp) (Rg.refl _ _) (fun d hd => by injection hd with hd; subst hd; exact rfl)
  · intro a w hw hs
    have hB := hw.size
    have h1 : a.eval (.tmp 31) = .pointer (some ⟨W.heap.size, 9, none⟩) := hs 31 (by decide)
    obtain ⟨e0, e1, e2, e3, e4, e5, e6, e7, e8, e9, e10, e11, e12⟩ := KS.out w hw
    exact ob_val (v := .bool kk) (by simp only [execOp]; rw [h1]; go_simp) (Rg.refl _ _) (fun d hd => by injection hd with hd; subst hd; exact rfl)
  · intro a w hw hs
    have hB := hw.size
    have h1 : a.eval (.tmp 1) = .pointer (some ⟨W.heap.size, 0, none⟩) := hs 1 (by decide)
    exact ob_val (v := .pointer (some ⟨W.heap.size, 10, none⟩)) (by simp only [execOp]; rw [h1]; go_simp) (Rg.refl _ _) (fun d hd => by injection hd with hd; subst hd; exact rfl)
  · intro a w hw hs
    have hB := hw.size
    have h1 : a.eval (.tmp 33) = .pointer (some ⟨W.heap.size, 10, none⟩) := hs 33 (by decide)
    obtain ⟨e0, e1, e2, e3, e4, e5, e6, e7, e8, e9, e10, e11, e12⟩ := KS.out w hw
    exact ob_val (v := .int .u32 kn) (by simp only [execOp]; rw [h1]; go_simp) (Rg.refl _ _) (fun d hd => by injection hd with hd; subst hd; exact rfl)
  · intro a w hw hs
    have hB := hw.size
    have h32 : a.eval (.tmp 32) = .bool kk := hs 32 (by decide)
    have k32 : a.tmps[32]?.getD undef = .bool kk := by rw [← Array.getD_eq_getD_getElem?]; exact h32
    have h34 : a.eval (.tmp 34) = .int .u32 kn := hs 34 (by decide)
    have k34 : a.tmps[34]?.getD undef = .int .u32 kn := by rw [← Array.getD_eq_getD_getElem?]; exact h34
    exact ob_call (F := 20) (args := #[.int .u8 12, .bool kk, .int .u32 kn]) (by simp only [execOp]; go_simp) (C9.out w hw) I9.out hB (fun A c w2 hS _ d hd => by injection hd with hd; subst hd; exact hS)
  · intro a w hw hs
    have hB := hw.size
    have h1 : a.eval (.tmp 1) = .pointer (some ⟨W.heap.size, 0, none⟩) := hs 1 (by decide)
    exact ob_val (v := .pointer (some ⟨W.heap.size, 11, none⟩)) (by simp only [execOp]; rw [h1]; go_simp) (Rg.refl _ _) (fun d hd => by injection hd with hd; subst hd; exact rfl)
  · intro a w hw hs
    have hB := hw.size
    have h1 : a.eval (.tmp 36) = .pointer (some ⟨W.heap.size, 11, none⟩) := hs 36 (by decide)
    obtain ⟨e0, e1, e2, e3, e4, e5, e6, e7, e8, e9, e10, e11, e12⟩ := KS.out w hw
    exact ob_val (v := .slice cA nc cc) (by simp only [execOp]; rw [h1]; go_simp) (Rg.refl _ _) (fun d hd => by injection hd with hd; subst hd; exact rfl)
  · intro a w hw hs
    have hB := hw.size
    have h37 : a.eval (.tmp 37) = .slice cA nc cc := hs 37 (by decide)
    have k37 : a.tmps[37]?.getD undef = .slice cA nc cc := by rw [← Array.getD_eq_getD_getElem?]; exact h37
    exact ob_call (F := 23) (args := #[.int .u8 10, .func (.func 24) #[] #[], .slice cA nc cc]) (by simp only [execOp]; go_simp) (C10.out w hw) I10.out hB (fun A c w2 hS _ d hd => by injection hd with hd; subst hd; exact hS)
  · intro a w hw hs
    have hB := hw.size
    have h1 : a.eval (.tmp 1) = .pointer (some ⟨W.heap.size, 0, none⟩) := hs 1 (by decide)
    exact ob_val (v := .pointer (some ⟨W.heap.size, 12, none⟩)) (by simp only [execOp]; rw [h1]; go_simp) (Rg.refl _ _) (fun d hd => by injection hd with hd; subst hd; exact rfl)
  · intro a w hw hs
    have hB := hw.size
    have h1 : a.eval (.tmp 39) = .pointer (some ⟨W.heap.size, 12, none⟩) := hs 39 (by decide)
    obtain ⟨e0, e1, e2, e3, e4, e5, e6, e7, e8, e9, e10, e11, e12⟩ := KS.out w hw
    exact ob_val (v := .slice dA nd dc) (by simp only [execOp]; rw [h1]; go_simp) (Rg.refl _ _) (fun d hd => by injection hd with hd; subst hd; exact rfl)
  · intro a w hw hs
    have hB := hw.size
    have h40 : a.eval (.tmp 40) = .slice dA nd dc := hs 40 (by decide)
    have k40 : a.tmps[40]?.getD undef = .slice dA nd dc := by rw [← Array.getD_eq_getD_getElem?]; exact h40
    exact ob_call (F := 25) (args := #[.int .u8 11, .func (.func 26) #[] #[], .slice dA nd dc]) (by simp only [execOp]; go_simp) (C11.out w hw) I11.out hB (fun A c w2 hS _ d hd => by injection hd with hd; subst hd; exact hS)
  · intro a w hw hs
    have hB := hw.size
    have g4 := hs 4 (by decide)
    change SlV w (a.eval (.tmp 4)) _ at g4
    have q4 := g4
    obtain ⟨A4, d4, j4, -, -, -⟩ := q4
    have g7 := hs 7 (by decide)
    change SlV w (a.eval (.tmp 7)) _ at g7
    have q7 := g7
    obtain ⟨A7, d7, j7, -, -, -⟩ := q7
    have g10 := hs 10 (by decide)
    change SlV w (a.eval (.tmp 10)) _ at g10
    have q10 := g10
    obtain ⟨A10, d10, j10, -, -, -⟩ := q10
    have g13 := hs 13 (by decide)
    change SlV w (a.eval (.tmp 13)) _ at g13
    have q13 := g13
    obtain ⟨A13, d13, j13, -, -, -⟩ := q13
    have g16 := hs 16 (by decide)
    change SlV w (a.eval (.tmp 16)) _ at g16
    have q16 := g16
    obtain ⟨A16, d16, j16, -, -, -⟩ := q16
    have g19 := hs 19 (by decide)
    change SlV w (a.eval (.tmp 19)) _ at g19
    have q19 := g19
    obtain ⟨A19, d19, j19, -, -, -⟩ := q19
    have g22 := hs 22 (by decide)
    change SlV w (a.eval (.tmp 22)) _ at g22
    have q22 := g22
    obtain ⟨A22, d22, j22, -, -, -⟩ := q22
    have g27 := hs 27 (by decide)
    change SlV w (a.eval (.tmp 27)) _ at g27
    have q27 := g27
    obtain ⟨A27, d27, j27, -, -, -⟩ := q27
    have g30 := hs 30 (by decide)
    change SlV w (a.eval (.tmp 30)) _ at g30
    have q30 := g30
    obtain ⟨A30, d30, j30, -, -, -⟩ := q30
    have g35 := hs 35 (by decide)
    change SlV w (a.eval (.tmp 35)) _ at g35
    have q35 := g35
    obtain ⟨A35, d35, j35, -, -, -⟩ := q35
    have g38 := hs 38 (by decide)
    change SlV w (a.eval (.tmp 38)) _ at g38
    have q38 := g38
    obtain ⟨A38, d38, j38, -, -, -⟩ := q38
    have g41 := hs 41 (by decide)
    change SlV w (a.eval (.tmp 41)) _ at g41
    have q41 := g41
    obtain ⟨A41, d41, j41, -, -, -⟩ := q41
    have hA : All2 (SlV w) _ _ := ((All2.one g4).app ((All2.one g7).app ((All2.one g10).app ((All2.one g13).app ((All2.one g16).app ((All2.one g19).app ((All2.one g22).app ((All2.one g27).app ((All2.one g30).app ((All2.one g35).app ((All2.one g38).app (All2.one g41))))))))))))
    simp only [List.cons_append, List.nil_append] at hA
    rw [j4, j7, j10, j13, j16, j19, j22, j27, j30, j35, j38, j41] at hA
    refine ob_build (vs := #[(0, .slice A4 ([0, 97, 115, 109, 1, 0, 0, 0]).length d4), (1, .slice A7 (y1).length d7), (2, .slice A10 (y2).length d10), (3, .slice A13 (y3).length d13), (4, .slice A16 (y4).length d16), (5, .slice A19 (y5).length d19), (6, .slice A22 (y6).length d22), (7, .slice A27 (y7).length d27), (8, .slice A30 (y8).length d30), (9, .slice A35 (y9).length d35), (10, .slice A38 (y10).length d38), (11, .slice A41 (y11).length d41)]) rfl (by simp only [List.map_toArray, List.map_cons, List.map_nil, j4, j7, j10, j13, j16, j19, j22, j27, j30, j35, j38, j41] <;> rfl) (lists12 A4 A7 A10 A13 A16 A19 A22 A27 A30 A35 A38 A41 ([0, 97, 115, 109, 1, 0, 0, 0]).length d4 (y1).length d7 (y2).length d10 (y3).length d13 (y4).length d16 (y5).length d19 (y6).length d22 (y7).length d27 (y8).length d30 (y9).length d35 (y10).length d38 (y11).length d41 w) (Rg.of (bl2 w _) hB) ?_
    intro d hd
    injection hd with hd
    subst hd
    exact ⟨_, rfl, rdL_lit w _ _ hA (by simp [maxLen])⟩
  · intro a w hw hs
    have hB := hw.size
    obtain ⟨A, h1, h2⟩ := hs 42 (by decide)
    change a.eval (.tmp 42) = _ at h1
    rw [h1] at h2
    have k1 : a.tmps[42]?.getD undef = .slice A 12 12 := by rw [← Array.getD_eq_getD_getElem?]; exact h1
    exact ob_call (F := 7) (args := #[.slice A 12 12]) (by simp only [execOp]; go_simp) (concatL_any A 12 12 _ w h2 rfl LEN.out (by omega)) IR.out hB (fun A c w2 hS _ d hd => by injection hd with hd; subst hd; exact hS)
  · intro a w hw hs
    have hB := hw.size
    have h1 := hs 43 (by decide)
    exact ob_val (v := a.eval (.tmp 43)) (by simp only [execOp]; go_simp) (Rg.refl _ _) (fun d hd => by injection hd with hd; subst hd; exact h1)
  · intro a w hd hsz hw hk hdone
    have h2 : SlV w (a.eval (.tmp 2)) _ := hdone 41 _ 2 rfl rfl
    rw [EQ.out] at h2
    obtain ⟨A, c, e1, e2, e3, e4⟩ := h2
    have e5 : a.tmps[2]?.getD undef = .slice A yr.length c := by rw [← Array.getD_eq_getD_getElem?]; exact e1
    go_wp2
    refine bodyPost_ret (by simp [results, Try.results5, go_sem, e5]; try rfl) hd ?_
    exact ⟨_, rfl, ⟨A, c, rfl, e2, e3, e4⟩, blT HB0.out hw⟩
end Go.Proofs.Ytdngkbagfaeplaa
