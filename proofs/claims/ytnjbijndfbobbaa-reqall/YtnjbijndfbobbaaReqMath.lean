/- What is put is taken; cut off it is short: of numbers, names, lists, requests, replies. -/
import Derived.Test.YtnjbijndfbobbaaPut3
import Derived.Test.YtnjbijndfbobbaaReplyPut
namespace Go.Proofs.Ytnjbijndfbobbaa
open Go.RowKit
set_option maxRecDepth 100000
set_option linter.unusedVariables false

/-- These bytes are read as a, whatever stands behind; cut off they are short. -/
def Enc {α : Type} (p : PR α) (a : α) (e : List Int) : Prop := (∀ more, p (e ++ more) = .ok (a, more)) ∧ ∀ j, j < e.length → p (e.take j) = .error 3
theorem enc_seq {α β : Type} {p : PR α} {f : α → PR β} {a : α} {b : β} {e1 e2 : List Int} (h1 : Enc p a e1) (h2 : Enc (f a) b e2) : Enc (seq p f) b (e1 ++ e2) := by
  refine ⟨fun more => ?_, fun j hj => ?_⟩
  · unfold seq
    rw [List.append_assoc, h1.1, bd_ok]; exact h2.1 more
  · unfold seq
    by_cases h : j < e1.length
    · rw [List.take_append_of_le_length (by omega), h1.2 j h]; rfl
    · rw [List.take_append, List.take_of_length_le (by omega), h1.1, bd_ok]
      exact h2.2 _ (by rw [List.length_append] at hj; omega)
theorem enc_pure {α : Type} (a : α) : Enc (fun l => .ok (a, l)) a [] := ⟨fun more => rfl, fun j hj => by simp at hj⟩
theorem enc_byte (z : Int) : Enc pByte z [z] := ⟨fun more => rfl, fun j hj => by
  obtain rfl : j = 0 := by simp at hj; omega
  rfl⟩
theorem enc_word (x : Int) (h0 : 0 ≤ x) (h1 : x < 18446744073709551616) : Enc pWord x (be8 x) := by
  refine ⟨fun more => pWord_be8 x h0 h1 more, fun j hj => ?_⟩
  rw [be8_len] at hj
  unfold pWord
  rw [pW_eq, if_neg (by simp [be8_len]; omega)]
theorem rdU_cut' (bits : Int) (v : Int) (h0 : 0 ≤ v) (h1 : v < 18446744073709551616) (j : Nat) (hj : j < (encU v).length) (hb : 7 * (j : Int) < bits) : rdU bits ((encU v).take j) = (0, 0, 3) := by
  unfold rdU encU at *
  rw [bytesOf_length] at hj
  exact dec_cut bits fitU _ (dgU_spec 9 v h0 (by simp; omega)).1 j hj hb
theorem enc_u64 (v : Int) (h0 : 0 ≤ v) (h1 : v < 18446744073709551616) : Enc (pU 64) v (encU v) := by
  refine ⟨fun more => ?_, fun j hj => ?_⟩
  · rw [pU_ok (rdU64_enc v more h0 h1)]
    simp
    show v % 18446744073709551616 = v
    omega
  · exact pU_no (rdU_cut' 64 v h0 h1 j hj (by have := (encU_len v).2; omega)) (by omega)
theorem encU_small (v : Int) (h0 : 0 ≤ v) (h1 : v < 128) : encU v = [v] := by unfold encU; exact bytesU_last 9 v h1
theorem enc_count (most v : Int) (h0 : 0 ≤ v) (h1 : v ≤ most) (h2 : v < 128) : Enc (pCount most) v (encU v) := by
  rw [encU_small v h0 h2]
  refine ⟨fun more => ?_, fun j hj => ?_⟩
  · have h := rdU32_enc v more h0 (by omega)
    rw [if_pos (by omega), encU_small v h0 h2] at h
    unfold pCount seq
    rw [pU_ok h, bd_ok]
    simp
    have e : v % 4294967296 = v := by omega
    rw [e, if_neg (by omega)]
  · obtain rfl : j = 0 := by simp at hj; omega
    rfl
theorem enc_bytes (l : List Int) : Enc (pBytes l.length) l l := by
  refine ⟨fun more => ?_, fun j hj => ?_⟩
  · unfold pBytes; rw [if_pos (by simp)]; simp
  · unfold pBytes; rw [if_neg (by simp; omega)]
theorem enc_nums (xs : List Int) : ∀ (acc : List Int), IsU64 xs → Enc (pN xs.length acc) (acc ++ xs) (encs xs) := by
  induction xs with
  | nil => intro acc _; rw [List.append_nil]; exact enc_pure acc
  | cons x t ih =>
    intro acc h
    have h1 := enc_u64 x (h x (by simp)).1 (h x (by simp)).2
    have h2 := ih (acc ++ [x]) fun z hz => h z (by simp [hz])
    have := enc_seq (f := fun x => pN t.length (acc ++ [x])) h1 h2
    simpa [encs, pN] using this
theorem enc_name (nm : List Int) (hn : nm.length ≤ 32) : Enc (pName 32) nm (encU nm.length ++ nm) := by
  have h1 := enc_count 32 nm.length (by omega) (by omega) (by omega)
  have h2 : Enc (pBytes (nm.length : Int).toNat) nm nm := by rw [Int.toNat_natCast]; exact enc_bytes nm
  unfold pName
  generalize (nm.length : Int) = m at *
  exact enc_seq h1 h2
theorem enc_list (xs : List Int) (hx : IsU64 xs) (hn : xs.length ≤ 8) : Enc (pList 8) xs (encU xs.length ++ encs xs) := by
  have h1 := enc_count 8 xs.length (by omega) (by omega) (by omega)
  have h2 : Enc (pN (xs.length : Int).toNat []) xs (encs xs) := by rw [Int.toNat_natCast]; simpa using enc_nums xs [] hx
  unfold pList
  generalize (xs.length : Int) = m at *
  exact enc_seq h1 h2

theorem enc_rep (q : Rep) (hq : q.Ok) (h0 : 0 ≤ q.err) (h1 : q.err ≤ 17) (hx : IsU64 q.values) (hn : q.values.length ≤ 8) : Enc pRep q (putRep q) := by
  have e1 : q.err % 256 = q.err := by omega
  have h := enc_seq (f := fun tok => seq pByte fun e => seq (pU 64) fun h => seq (pList 8) fun xs l => .ok ((⟨tok, e, h, xs⟩ : Rep), l)) (enc_word q.token hq.1.1 hq.1.2)
    (enc_seq (f := fun e => seq (pU 64) fun h => seq (pList 8) fun xs l => .ok ((⟨q.token, e, h, xs⟩ : Rep), l)) (enc_byte q.err)
      (enc_seq (f := fun h => seq (pList 8) fun xs l => .ok ((⟨q.token, q.err, h, xs⟩ : Rep), l)) (enc_u64 q.handle hq.2.2.1 hq.2.2.2)
        (enc_seq (f := fun xs l => .ok ((⟨q.token, q.err, q.handle, xs⟩ : Rep), l)) (enc_list q.values hx hn) (enc_pure q))))
  unfold pRep putRep
  rw [e1]
  simpa using h
theorem rep_back (q : Rep) (hq : q.Ok) (h0 : 0 ≤ q.err) (h1 : q.err ≤ 17) (hx : IsU64 q.values) (hn : q.values.length ≤ 8) :
    takeRep (putRep q) = .ok q ∧ (∀ j, j < (putRep q).length → takeRep ((putRep q).take j) = .error 3) ∧ ∀ m, takeRep (putRep q ++ [m]) = .error 2 := by
  obtain ⟨e1, e2⟩ := enc_rep q hq h0 h1 hx hn
  refine ⟨?_, fun j hj => ?_, fun m => ?_⟩
  · have := e1 []
    rw [List.append_nil] at this
    simp only [takeRep, bd_ok, this, repEnd, done]
    rw [if_neg (by omega)]; simp
  · simp only [takeRep, bd_ok, e2 j hj, bd_error]
  · simp only [takeRep, bd_ok, e1 [m], repEnd, done]
    rw [if_neg (by omega), if_neg (by simp)]

/-- What its kind has. -/
def norm (q : Req) : Req :=
  if q.kind = 1 then ⟨1, q.token, 0, [], q.body, [], 0, 0⟩
  else if q.kind = 2 then ⟨2, q.token, q.handle, q.name, [], [], 0, 0⟩
  else if q.kind = 3 then ⟨3, q.token, 0, q.name, [], [], 0, 0⟩
  else if q.kind = 4 then ⟨4, q.token, q.handle, q.name, [], q.args, q.ticks, 0⟩
  else if q.kind = 5 then ⟨5, q.token, q.handle, [], [], [], 0, 0⟩
  else ⟨6, q.token, 0, [], [], [], 0, q.other⟩
theorem kind_enc (k : Int) (h0 : 1 ≤ k) (h1 : k ≤ 6) : Enc pKind k [k] := by
  refine ⟨fun more => ?_, fun j hj => ?_⟩
  · simp only [pKind, seq, List.cons_append, List.nil_append, pByte, bd_ok]
    rw [if_neg (by omega)]
  · obtain rfl : j = 0 := by simp at hj; omega
    rfl
theorem rest_enc (q : Req) (hq : q.Ok) (h0 : 1 ≤ q.kind) (h1 : q.kind ≤ 6) (hk : q.kind ≠ 1) (hx : IsU64 q.args) (hn : q.name.length ≤ 32) (ha : q.args.length ≤ 8) : Enc (pRest q.kind q.token) (norm q) (putRest q) := by
  obtain ⟨kind, token, handle, name, body, args, ticks, other⟩ := q
  obtain ⟨_, ⟨t0, t1⟩, ⟨g0, g1⟩, hnb, ⟨i0, i1⟩, ⟨o0, o1⟩⟩ := hq
  simp only at *
  rcases show kind = 2 ∨ kind = 3 ∨ kind = 4 ∨ kind = 5 ∨ kind = 6 from by omega with rfl | rfl | rfl | rfl | rfl
  · rw [pRest_2]
    have := enc_seq (f := fun h => seq (pName 32) fun n l => .ok ((⟨2, token, h, n, [], [], 0, 0⟩ : Req), l)) (enc_u64 handle g0 g1) (enc_seq (f := fun n l => .ok ((⟨2, token, handle, n, [], [], 0, 0⟩ : Req), l)) (enc_name name hn) (enc_pure _))
    simpa [putRest, norm] using this
  · rw [pRest_3]
    have := enc_seq (f := fun n l => .ok ((⟨3, token, 0, n, [], [], 0, 0⟩ : Req), l)) (enc_name name hn) (enc_pure _)
    simpa [putRest, norm] using this
  · rw [pRest_4]
    have := enc_seq (f := fun h => seq (pName 32) fun n => seq (pList 8) fun xs => seq (pU 64) fun ti l => .ok ((⟨4, token, h, n, [], xs, ti, 0⟩ : Req), l)) (enc_u64 handle g0 g1)
      (enc_seq (f := fun n => seq (pList 8) fun xs => seq (pU 64) fun ti l => .ok ((⟨4, token, handle, n, [], xs, ti, 0⟩ : Req), l)) (enc_name name hn)
        (enc_seq (f := fun xs => seq (pU 64) fun ti l => .ok ((⟨4, token, handle, name, [], xs, ti, 0⟩ : Req), l)) (enc_list args hx ha)
          (enc_seq (f := fun ti l => .ok ((⟨4, token, handle, name, [], args, ti, 0⟩ : Req), l)) (enc_u64 ticks i0 i1) (enc_pure _))))
    simpa [putRest, norm] using this
  · rw [pRest_5]
    have := enc_seq (f := fun h l => .ok ((⟨5, token, h, [], [], [], 0, 0⟩ : Req), l)) (enc_u64 handle g0 g1) (enc_pure _)
    simpa [putRest, norm] using this
  · rw [pRest_6]
    have := enc_seq (f := fun o l => .ok ((⟨6, token, 0, [], [], [], 0, o⟩ : Req), l)) (enc_word other o0 o1) (enc_pure _)
    simpa [putRest, norm] using this
theorem putReq_app (q : Req) : putReq q = [q.kind] ++ (be8 q.token ++ putRest q) := by simp [putReq]
/-- What is put is taken, in what its kind has. -/
theorem req_back (q : Req) (hq : q.Ok) (h0 : 1 ≤ q.kind) (h1 : q.kind ≤ 6) (hx : IsU64 q.args) (hn : q.name.length ≤ 32) (ha : q.args.length ≤ 8) : takeReq (putReq q) = .ok (norm q) := by
  have hk := kind_enc q.kind h0 h1
  have hw := enc_word q.token hq.2.1.1 hq.2.1.2
  rw [putReq_app]
  by_cases h : q.kind = 1
  · simp only [takeReq, bd_ok, pReq, seq]
    rw [hk.1, bd_ok, hw.1, bd_ok]
    simp only [h, pRest_1, bd_ok, done, putRest, norm, if_true]
  · have := (enc_seq (f := fun k => seq pWord fun tok => pRest k tok) hk (enc_seq (f := fun tok => pRest q.kind tok) hw (rest_enc q hq h0 h1 h hx hn ha))).1 []
    rw [List.append_nil] at this
    simp only [takeReq, bd_ok, pReq]
    rw [this, bd_ok]
    rfl
theorem req_cut (q : Req) (hq : q.Ok) (h0 : 1 ≤ q.kind) (h1 : q.kind ≤ 6) (hk1 : q.kind ≠ 1) (hx : IsU64 q.args) (hn : q.name.length ≤ 32) (ha : q.args.length ≤ 8) :
    (∀ j, j < (putReq q).length → takeReq ((putReq q).take j) = .error 3) ∧ ∀ m, takeReq (putReq q ++ [m]) = .error 2 := by
  have hk := kind_enc q.kind h0 h1
  have hw := enc_word q.token hq.2.1.1 hq.2.1.2
  obtain ⟨e1, e2⟩ := enc_seq (f := fun k => seq pWord fun tok => pRest k tok) hk (enc_seq (f := fun tok => pRest q.kind tok) hw (rest_enc q hq h0 h1 hk1 hx hn ha))
  rw [← putReq_app] at e1 e2
  refine ⟨fun j hj => ?_, fun m => ?_⟩
  · simp only [takeReq, bd_ok, pReq]; rw [e2 j hj]; rfl
  · simp only [takeReq, bd_ok, pReq]; rw [e1 [m], bd_ok]; simp [done]
theorem putReq_norm (q : Req) (h0 : 1 ≤ q.kind) (h1 : q.kind ≤ 6) : putReq (norm q) = putReq q := by
  obtain ⟨kind, token, handle, name, body, args, ticks, other⟩ := q
  simp only at *
  rcases show kind = 1 ∨ kind = 2 ∨ kind = 3 ∨ kind = 4 ∨ kind = 5 ∨ kind = 6 from by omega with rfl | rfl | rfl | rfl | rfl | rfl <;> simp [norm, putReq, putRest]
end Go.Proofs.Ytnjbijndfbobbaa
