/- req.PutReply: which bytes a reply has. -/
import Derived.Test.YtnjbijndfbobbaaPut3
import Derived.Test.YtnjbijndfbobbaaReplyTake
import Derived.Deep.RegionLaw
import Derived.Deep.Cut
namespace Go.Proofs.Ytnjbijndfbobbaa
open Go.RowKit
set_option maxRecDepth 100000
set_option linter.unusedVariables false

def putRep (q : Rep) : List Int := be8 q.token ++ [q.err % 256] ++ encU q.handle ++ encU q.values.length ++ encs q.values
/-- append(s, x...) of bytes, as a step of a region that draws its order. -/
theorem step_appX {X : Nat → Prop} {ops : Array Oper} {o : Oper} {a : Act} {K : Act → World → Prop} {Q : Exit → Act → World → Prop} {E : Prop} {w : World} (hgd : o.guard = none) (s x : Operand)
    (ho : o.op = .call { callee := .builtin .append, args := #[s, x], argTypes := #[23, 23] }) (base : Nat) (v : Value) (l : List Int) (hs : a.eval s = v) (hown : OwnB w base v l)
    (A : Option Addr) (m c : Nat) (news : List Int) (hx : a.eval x = .slice A m c) (hm : m = news.length) (hr : RdX X w A news) (hlen : l.length + m ≤ 1000000000) (hbase : base ≤ w.heap.size)
    (h : ∀ v' w', OwnB w' base v' (l ++ news) → Grew v w v' w' → K (a.put o.dst v') w') :
    if Region.wanted o (yielded ops a.tmps) = true then Oper.wp Try.prog o a w K Q else E := by
  have hw : Region.wanted o (yielded ops a.tmps) = true := by simp [Region.wanted, hgd]
  rw [if_pos hw]
  subst hm
  obtain ⟨v', w', hrun, g1, g2, g3⟩ := run_appG (ty := o.type) under_bytes byte_info rfl (by omega) w base v l.length _ hown A news.length c (news.map (Value.int .u8)) (by simp) hr.2 (fun u hu => by obtain ⟨y, _, rfl⟩ := List.mem_map.1 hu; rfl) (by simp only [maxLen]; omega) (by omega) hbase
  exact Lib.wp_append_run _ s x _ _ ho _ _ hs hx v' w' hrun (h v' w' (by unfold OwnB; simpa using g1) (Grew.of_grown g2 g3))

/-- Within PutReply: the reply in block g, the bytes so far in v. -/
def Pp (w : World) (Q : List Value) (q : Rep) (B : Option Addr) (v : Value) (l : List Int) (wr : World) : Prop :=
  Own wr w.heap.size 41 Q ∧ OwnB wr (w.heap.size + 1) v l ∧ IsBytes l ∧ RdU (· < w.heap.size) wr B q.values ∧ Below w.heap.size w wr ∧ w.heap.size + 1 ≤ wr.heap.size
section
variable {w : World} {Q : List Value} {q : Rep} {B : Option Addr} {v v' : Value} {l l' : List Int} {wr w' : World}
theorem Pp.step (h : Pp w Q q B v l wr) (ho : OwnB w' (w.heap.size + 1) v' l') (hI : IsBytes l') (hg : Grew v wr v' w') : Pp w Q q B v' l' w' := by
  obtain ⟨p1, p2, p3, p5, p6, p7⟩ := h
  have hs := hg.1.size
  have hf : ∀ k, k ≤ w.heap.size → ¬ v.ownBlock = some k := fun k hk e => by have := owns_ge p2 e; omega
  exact ⟨p1.chg hg.1 (hf _ (Nat.le_refl _)), ho, hI, p5.chg hg.1 fun k _ hk => hf k (by omega), p6.trans (hg.1.below (by omega) fun i hi e => by have := owns_ge p2 e; omega), by omega⟩
theorem Pp.later (h : Pp w Q q B v l wr) (hb : Below wr.heap.size wr w') : Pp w Q q B v l w' := by
  obtain ⟨p1, p2, p3, p5, p6, p7⟩ := h
  have hs := hb.size
  exact ⟨p1.later hb, p2.later hb, p3, p5.later hb, p6.trans (hb.mono (by omega)), by omega⟩
theorem Pp.before (h : Pp w Q q B v l wr) {k : Nat} (hk : v.ownBlock = some k) : w.heap.size < k := by have := owns_ge h.2.1 hk; omega
theorem Pp.done (h : Pp w Q q B v l wr) : PutPost l w (.returned v) wr := ⟨v, rfl, h.2.1.base (by omega), h.2.2.2.2.1⟩
end

set_option maxHeartbeats 2000000 in
theorem put_rep {X : Nat → Prop} (v : Value) (q : Rep) (w : World) (hv : RepV X w v q) (ha : q.values.length ≤ 1000) :
    Calls Try.prog 25 #[v] w (PutPost (putRep q) w) := by
  obtain ⟨B, d, rfl, hB, hd1, hd2, hok⟩ := hv
  obtain ⟨⟨t0, t1⟩, ⟨e0, e1⟩, ⟨h0, h1⟩⟩ := hok
  have hlB : RdU (· < w.heap.size) w B q.values := hB.mono (fun k hk _ => hk)
  have HR := Lib.hid hlB
  clear hB hlB hd1 hd2
  obtain ⟨token, er, handle, values⟩ := q
  simp only at *
  generalize hal : values.length = al at *
  have HBL := Lib.hid hal
  clear hal
  go_enter Try.func25, Try.ntmps25
  have HT0 : Hid (Pp w [.int .u64 token, .int .i64 er, .int .u64 handle, .slice B al d] ⟨token, er, handle, values⟩ B (.slice none 0 0) [] (w.alloc (.cells #[.int .u64 token, .int .i64 er, .int .u64 handle, .slice B al d] 41))) := by
    have hA := (Below.refl w.heap.size w).alloc (Nat.le_refl _) (.cells #[.int .u64 token, .int .i64 er, .int .u64 handle, .slice B al d] 41)
    exact ⟨Own.new w 41 [.int .u64 token, .int .i64 er, .int .u64 handle, .slice B al d], OwnB.nil _ _, IsBytes.nil, HR.out.later hA, hA, by simp⟩
  go_wp2
  obtain ⟨c0, c1, c2, c3, -, -, -, -⟩ := own_cells4 HT0.out.1
  generalize w.alloc (.cells #[.int .u64 token, .int .i64 er, .int .u64 handle, .slice B al d] 41) = w1 at *
  have hgw : w.heap.size < w1.heap.size := HT0.out.2.2.2.2.2
  have hW1 := HT0.out.later ((Below.refl _ _).drew)
  have hW2 := HT0.out.later (((Below.refl w1.heap.size w1).alloc (Nat.le_refl _) (.cells #[.int .u8 (er % 256)] 5)).drew)
  have C1 : Hid (∀ W, Pp w [.int .u64 token, .int .i64 er, .int .u64 handle, .slice B al d] ⟨token, er, handle, values⟩ B (.slice none 0 0) [] W → Calls Try.prog 60 #[.slice none 0 0, .int .u64 token] W (fun e w' => ∃ v, e = .returned v ∧ Pp w [.int .u64 token, .int .i64 er, .int .u64 handle, .slice B al d] ⟨token, er, handle, values⟩ B v (be8 token) w' ∧ Grew (.slice none 0 0) W v w')) := by
    intro W hW
    refine (putWord_any (w.heap.size + 1) _ _ token _ hW.2.1 (by simp) hW.2.2.2.2.2 hW.2.2.1 t0 t1).mono ?_
    rintro e w' ⟨v, rfl, ho, hg⟩
    exact ⟨v, rfl, hW.step (by simpa using ho) (be8_is token) hg, hg⟩
  have HA1 := Lib.hid hW1
  have HA2 := Lib.hid hW2
  have HLt : Hid (RdX (fun k => k = w1.heap.size) (w1.alloc (.cells #[.int .u8 (er % 256)] 5)).drew (some ⟨w1.heap.size, 0, none⟩) [er % 256]) := (rdX_lit w1 [er % 256] (IsBytes.one (by omega) (by omega))).later ((Below.refl _ _).drew)
  clear hW1 hW2
  have CN : Hid (∀ (w4 : World) (A4 : Option Addr) (n4 k4 : Nat), Pp w [.int .u64 token, .int .i64 er, .int .u64 handle, .slice B al d] ⟨token, er, handle, values⟩ B (.slice A4 n4 k4) (be8 token ++ [er % 256]) w4 → Calls Try.prog 62 #[.slice A4 n4 k4, .slice (some ⟨w4.heap.size, 0, none⟩) 1 1] (w4.alloc (.cells #[.int .u64 handle] 22)).drew (fun e w' => ∃ v, e = .returned v ∧ Pp w [.int .u64 token, .int .i64 er, .int .u64 handle, .slice B al d] ⟨token, er, handle, values⟩ B v (be8 token ++ [er % 256] ++ encs [handle]) w')) := by
    intro w4 A4 n4 k4 h4
    have hb : Below w4.heap.size w4 (w4.alloc (.cells #[.int .u64 handle] 22)).drew := ((Below.refl _ _).alloc (Nat.le_refl _) _).drew
    have h5 := h4.later hb
    have hlit : RdU (fun k => k = w4.heap.size) (w4.alloc (.cells #[.int .u64 handle] 22)).drew (some ⟨w4.heap.size, 0, none⟩) [handle] := (rdU_lit w4 [handle] (IsU64.one h0 h1)).later ((Below.refl _ _).drew)
    refine (putNumbers_any (w.heap.size + 1) _ _ [handle] _ 1 1 _ h5.2.1 (by simp [be8_len]) h5.2.2.2.2.2 h5.2.2.1 hlit rfl (by omega) (fun k hk e h => by have h6 := owns_lt h4.2.1 h; have : k = w4.heap.size := e; omega)).mono ?_
    rintro e w' ⟨v, rfl, ho, hg⟩
    exact ⟨v, rfl, h5.step ho (h5.2.2.1.app (encs_is _ (IsU64.one h0 h1))) hg⟩
  have CL : Hid (∀ (w2 : World) (A2 : Option Addr) (n2 k2 : Nat), Pp w [.int .u64 token, .int .i64 er, .int .u64 handle, .slice B al d] ⟨token, er, handle, values⟩ B (.slice A2 n2 k2) (be8 token ++ [er % 256] ++ encs [handle]) w2 → Calls Try.prog 63 #[.slice A2 n2 k2, .slice B al d] w2 (PutPost (putRep ⟨token, er, handle, values⟩) w)) := by
    intro w2 A2 n2 k2 h2
    refine (putList_any (w.heap.size + 1) _ _ values B al d _ h2.2.1 (by have h5 := encs_len [handle]; simp [be8_len] at h5 ⊢; omega) h2.2.2.2.2.2 h2.2.2.1 h2.2.2.2.1 HBL.out.symm (by omega) (fun k hk hX e => by have := h2.before e; omega)).mono ?_
    rintro e w3 ⟨v3, rfl, ho, hg⟩
    have := (h2.step ho ((h2.2.2.1.app (encU_is _ (by omega) (by omega))).app (encs_is _ HR.out.1)) hg).done
    have e1 := HBL.out
    simpa [putRep, encs, e1] using this
  go_cut [3] from 4 (fun s3 wx => ∃ (A4 : Option Addr) (n4 k4 : Nat), s3 = .slice A4 n4 k4 ∧ Hid (Pp w [.int .u64 token, .int .i64 er, .int .u64 handle, .slice B al d] ⟨token, er, handle, values⟩ B (.slice A4 n4 k4) (be8 token ++ [er % 256]) wx))
  case first =>
    go_region_law (first
      | (refine step_appX rfl (.tmp 6) (.tmp 10) rfl (w.heap.size + 1) _ (be8 token) (by simp [Act.eval]) H2.out.1.2.1 _ 1 1 [er % 256] (by simp [Act.eval]) rfl H2.out.2 (by simp [be8_len]) H2.out.1.2.2.2.2.2 ?_; intro v4 w4 hv4 hw4; have H4 := Lib.hid (H2.out.1.step hv4 (H2.out.1.2.2.1.app (IsBytes.one (by omega) (by omega))) hw4); clear hv4 hw4)
      | (go_simp; go_at_call 60; refine (C1.out w1.drew HA1.out).mono ?_; rintro e w2 ⟨v2, rfl, hp, hg⟩; have d1 := hp.1.cell 1; simp only [List.getElem?_cons_succ, List.getElem?_cons_zero] at d1; have hgw2 : w.heap.size < w2.heap.size := hp.2.2.2.2.2; obtain ⟨A2, k2, hA2, -, -, -⟩ := hp.2.1.rdX hp.2.2.1; subst hA2; rw [be8_len] at *; have H2 : Hid (Pp w [.int .u64 token, .int .i64 er, .int .u64 handle, .slice B al d] ⟨token, er, handle, values⟩ B (.slice A2 8 k2) (be8 token) (w2.alloc (.cells #[.int .u8 (er % 256)] 5)) ∧ RdX (fun k => k = w2.heap.size) (w2.alloc (.cells #[.int .u8 (er % 256)] 5)) (some ⟨w2.heap.size, 0, none⟩) [er % 256]) := ⟨hp.later ((Below.refl _ _).alloc (Nat.le_refl _) _), rdX_lit w2 [er % 256] (IsBytes.one (by omega) (by omega))⟩; clear hp hg)
      | (go_simp; go_at_call 60; refine (C1.out (w1.alloc (.cells #[.int .u8 (er % 256)] 5)).drew HA2.out).mono ?_; rintro e w2 ⟨v2, rfl, hp, hg⟩; obtain ⟨A2, k2, hA2, -, -, -⟩ := hp.2.1.rdX hp.2.2.1; subst hA2; rw [be8_len] at *; have H2 := Lib.hid (And.intro hp (HLt.out.chg hg.1 (fun k _ e h => by simp [Value.ownBlock] at h))); clear hp hg))
    all_goals
      obtain ⟨A4, k4, hA4, -, -, -⟩ := H4.out.2.1.rdX H4.out.2.2.1
      subst hA4
      generalize (be8 token ++ [er % 256]).length = n4 at *
      go_wp2_with fail
      go_meet
      exact ⟨_, _, _, rfl, H4⟩
  case rest =>
    obtain ⟨A4, n4, k4, rfl, H4⟩ := hcut
    clear c0 c1 c2 c3 C1 HA1 HA2 HLt HT0
    obtain ⟨c0, c1, c2, c3, -, -, -, -⟩ := own_cells4 H4.out.1
    have hgw4 : w.heap.size < wc.heap.size := H4.out.2.2.2.2.2
    go_wp2
    go_region_with (first
      | (go_at_call 62; refine (CN.out wc _ _ _ H4.out).mono ?_; rintro e w5 ⟨v5, rfl, hp⟩; have d3 := hp.1.cell 3; simp only [List.getElem?_cons_succ, List.getElem?_cons_zero] at d3; obtain ⟨A5, k5, hA5, -, -, -⟩ := hp.2.1.rdX hp.2.2.1; subst hA5; have H5 := Lib.hid hp; clear hp; generalize (be8 token ++ [er % 256] ++ encs [handle]).length = n5 at *)
      | (go_at_call 63; refine (CL.out _ _ _ _ H5.out).mono ?_; rintro e w6 ⟨v6, rfl, ho, hg⟩; have H6 := Lib.hid (And.intro ho hg); clear ho hg))
    all_goals go_wp2
    all_goals go_ret
    all_goals exact ⟨_, rfl, H6.out.1, H6.out.2⟩
end Go.Proofs.Ytnjbijndfbobbaa
