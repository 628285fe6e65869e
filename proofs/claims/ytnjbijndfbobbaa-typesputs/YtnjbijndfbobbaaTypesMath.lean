/- Types as bytes, as plain functions: what is put is taken, and tells types apart. No function of the program. -/
import Derived.Test.YtnjbijndfbobbaaReqMath
import Derived.Test.YtnjbijndfbobbaaTypesLimPut
namespace Go.Proofs.Ytnjbijndfbobbaa
open Go.RowKit
set_option maxRecDepth 100000
set_option linter.unusedVariables false

theorem encU_len5 (v : Int) (h0 : 0 ≤ v) (h1 : v < 4294967296) : (encU v).length ≤ 5 := by
  unfold encU
  rw [bytesOf_length]
  obtain ⟨-, -, -, h, -⟩ := dgU_spec 9 v h0 (by simp; omega)
  have hl := dgU_len 9 v
  generalize (dgU 9 v).length = n at *
  rcases h with h | h
  · omega
  · apply Decidable.byContradiction
    intro hn
    rcases show n = 6 ∨ n = 7 ∨ n = 8 ∨ n = 9 ∨ n = 10 from by omega with e | e | e | e | e <;> subst e <;> simp at h <;> omega
theorem enc_u32 (v : Int) (h0 : 0 ≤ v) (h1 : v < 4294967296) : Enc (pU 32) v (encU v) := by
  refine ⟨fun more => ?_, fun j hj => ?_⟩
  · have h := rdU32_enc v more h0 (by omega)
    rw [if_pos h1] at h
    rw [pU_ok h]
    simp
    show v % 4294967296 = v
    omega
  · exact pU_no (rdU_cut' 32 v h0 (by omega) j hj (by have := encU_len5 v h0 h1; omega)) (by omega)
theorem enc_test {P : Int → Prop} [DecidablePred P] {c : Int → Int} (z : Int) (h : P z) : Enc (seq pByte fun x l => if P x then .ok (x, l) else .error (c x)) z [z] := by
  refine ⟨fun more => ?_, fun j hj => ?_⟩
  · show (if P z then Except.ok (z, more) else Except.error (c z)) = _
    rw [if_pos h]
  · obtain rfl : j = 0 := by simp at hj; omega
    rfl
theorem enc_among (ps : List Int) (z : Int) (h : z ∈ ps) : Enc (pAmong ps) z [z] := enc_test (P := fun x => x ∈ ps) (c := fun _ => 2) z h
theorem enc_val (z : Int) (h : valE z = 0) : Enc pVal z [z] := enc_test (P := fun x => valE x = 0) (c := valE) z h
theorem enc_pV (xs : List Int) : ∀ (acc : List Int), (∀ z ∈ xs, valE z = 0) → Enc (pV xs.length acc) (acc ++ xs) xs := by
  induction xs with
  | nil => intro acc _; rw [List.append_nil]; exact enc_pure acc
  | cons x t ih =>
    intro acc h
    have h1 := enc_val x (h x (by simp))
    have h2 := ih (acc ++ [x]) fun z hz => h z (by simp [hz])
    have := enc_seq (f := fun x => pV t.length (acc ++ [x])) h1 h2
    simpa [pV] using this
theorem enc_vals (xs : List Int) (hx : ∀ z ∈ xs, valE z = 0) (hn : xs.length ≤ 8) : Enc pVals xs (encU xs.length ++ xs) := by
  have h1 := enc_count 8 xs.length (by omega) (by omega) (by omega)
  have h2 : Enc (pV (xs.length : Int).toNat []) xs xs := by rw [Int.toNat_natCast]; simpa using enc_pV xs [] hx
  unfold pVals
  generalize (xs.length : Int) = m at *
  exact enc_seq h1 h2
theorem enc_fn (f : Fn) (h1 : ∀ z ∈ f.1, valE z = 0) (h2 : ∀ z ∈ f.2, valE z = 0) (n1 : f.1.length ≤ 8) (n2 : f.2.length ≤ 8) : Enc pFn f (putFn f) := by
  have a1 := enc_among [96] 96 (by simp)
  have a2 := enc_vals f.1 h1 n1
  have a3 := enc_vals f.2 h2 n2
  have a4 := enc_seq (f := fun rs l => .ok (((f.1, rs) : Fn), l)) a3 (enc_pure ((f.1, f.2) : Fn))
  have a5 := enc_seq (f := fun ps => seq pVals fun rs l => .ok (((ps, rs) : Fn), l)) a2 a4
  have a6 := enc_seq (f := fun _ => seq pVals fun ps => seq pVals fun rs l => .ok (((ps, rs) : Fn), l)) a1 a5
  have e : putFn f = [96] ++ ((encU f.1.length ++ f.1) ++ ((encU f.2.length ++ f.2) ++ [])) := by unfold putFn; simp
  rw [e]
  exact a6
/-- Limits without a Max have none. -/
def Lim.Plain (l : Lim) : Prop := l.has = false → l.max = 0
theorem enc_lim (l : Lim) (h : l.Ok) (hp : l.Plain) : Enc pLim l (putLim l) := by
  obtain ⟨a, b, has⟩ := l
  obtain ⟨⟨a0, a1⟩, b0, b1⟩ := h
  simp only [] at a0 a1 b0 b1
  have e1 := enc_u32 a a0 (by omega)
  have e2 := enc_u32 b b0 (by omega)
  unfold pLim
  cases has with
  | true =>
    rw [putLim_yes]
    have k := enc_among [0, 1] 1 (by simp)
    have h3 := enc_seq (f := fun b l => .ok ((⟨a, b, true⟩ : Lim), l)) e2 (enc_pure (⟨a, b, true⟩ : Lim))
    rw [List.append_nil] at h3
    have h4 := enc_seq (f := fun a => if (1 : Int) = 1 then seq (pU 32) fun b l => .ok ((⟨a, b, true⟩ : Lim), l) else fun l => .ok ((⟨a, 0, false⟩ : Lim), l)) e1 (by rw [if_pos rfl]; exact h3)
    exact enc_seq (f := fun k => seq (pU 32) fun a => if k = 1 then seq (pU 32) fun b l => .ok ((⟨a, b, true⟩ : Lim), l) else fun l => .ok ((⟨a, 0, false⟩ : Lim), l)) k h4
  | false =>
    have hb : b = 0 := hp rfl
    subst hb
    rw [putLim_no]
    have k := enc_among [0, 1] 0 (by simp)
    have h4 := enc_seq (f := fun a => if (0 : Int) = 1 then seq (pU 32) fun b l => .ok ((⟨a, b, true⟩ : Lim), l) else fun l => .ok ((⟨a, 0, false⟩ : Lim), l)) e1 (b := (⟨a, 0, false⟩ : Lim)) (e2 := []) (by rw [if_neg (by omega)]; exact enc_pure _)
    rw [List.append_nil] at h4
    exact enc_seq (f := fun k => seq (pU 32) fun a => if k = 1 then seq (pU 32) fun b l => .ok ((⟨a, b, true⟩ : Lim), l) else fun l => .ok ((⟨a, 0, false⟩ : Lim), l)) k h4
theorem enc_inj {α : Type} {p : PR α} {a b : α} {e : List Int} (h1 : Enc p a e) (h2 : Enc p b e) : a = b := by
  have h := (h1.1 []).symm.trans (h2.1 [])
  injection h with h
  injection h
theorem putLim_eq (l m : Lim) (hl : l.Ok) (hm : m.Ok) (pl : l.Plain) (pm : m.Plain) : decide (putLim l = putLim m) = decide (l = m) := by
  rw [decide_eq_decide]
  exact ⟨fun h => enc_inj (enc_lim l hl pl) (by rw [h]; exact enc_lim m hm pm), fun h => by rw [h]⟩
def pRaw : PR Fn := seq pByte fun _ => seq (pU 64) fun n => seq (pBytes n.toNat) fun a => seq (pU 64) fun m => seq (pBytes m.toNat) fun b l => .ok ((a, b), l)
theorem enc_raw (f : Fn) (n1 : f.1.length ≤ 1000000) (n2 : f.2.length ≤ 1000000) : Enc pRaw f (putFn f) := by
  have a1 := enc_byte 96
  have a2 := enc_u64 f.1.length (by omega) (by omega)
  have a3 : Enc (pBytes (f.1.length : Int).toNat) f.1 f.1 := by rw [Int.toNat_natCast]; exact enc_bytes f.1
  have a4 := enc_u64 f.2.length (by omega) (by omega)
  have a5 : Enc (pBytes (f.2.length : Int).toNat) f.2 f.2 := by rw [Int.toNat_natCast]; exact enc_bytes f.2
  have b1 := enc_seq (f := fun b l => .ok (((f.1, b) : Fn), l)) a5 (enc_pure ((f.1, f.2) : Fn))
  have b2 := enc_seq (f := fun m => seq (pBytes (Int.toNat m)) fun b l => .ok (((f.1, b) : Fn), l)) a4 b1
  have b3 := enc_seq (f := fun a => seq (pU 64) fun m => seq (pBytes m.toNat) fun b l => .ok (((a, b) : Fn), l)) a3 b2
  have b4 := enc_seq (f := fun n => seq (pBytes (Int.toNat n)) fun a => seq (pU 64) fun m => seq (pBytes m.toNat) fun b l => .ok (((a, b) : Fn), l)) a2 b3
  have b5 := enc_seq (f := fun _ => seq (pU 64) fun n => seq (pBytes n.toNat) fun a => seq (pU 64) fun m => seq (pBytes m.toNat) fun b l => .ok (((a, b) : Fn), l)) a1 b4
  have e : putFn f = [96] ++ (encU f.1.length ++ (f.1 ++ (encU f.2.length ++ (f.2 ++ [])))) := by unfold putFn; simp
  rw [e]
  exact b5
theorem putFn_eq (f g : Fn) (n1 : f.1.length ≤ 1000000) (n2 : f.2.length ≤ 1000000) (m1 : g.1.length ≤ 1000000) (m2 : g.2.length ≤ 1000000) : decide (putFn f = putFn g) = decide (f = g) := by
  rw [decide_eq_decide]
  exact ⟨fun h => enc_inj (enc_raw f n1 n2) (by rw [h]; exact enc_raw g m1 m2), fun h => by rw [h]⟩
theorem putFn_is (f : Fn) (h1 : IsBytes f.1) (h2 : IsBytes f.2) (n1 : f.1.length ≤ 1000000) (n2 : f.2.length ≤ 1000000) : IsBytes (putFn f) := by
  have e : putFn f = [96] ++ (encU f.1.length ++ (f.1 ++ (encU f.2.length ++ f.2))) := by unfold putFn; simp
  rw [e]
  exact (IsBytes.one (by omega) (by omega)).app ((encU_is _ (by omega) (by omega)).app (h1.app ((encU_is _ (by omega) (by omega)).app h2)))
theorem putLim_is (l : Lim) (h : l.Ok) : IsBytes (putLim l) := by
  obtain ⟨a, b, has⟩ := l
  obtain ⟨⟨a0, a1⟩, b0, b1⟩ := h
  simp only [] at a0 a1 b0 b1
  cases has with
  | true => rw [putLim_yes]; exact (IsBytes.one (by omega) (by omega)).app ((encU_is _ a0 (by omega)).app (encU_is _ b0 (by omega)))
  | false => rw [putLim_no]; exact (IsBytes.one (by omega) (by omega)).app (encU_is _ a0 (by omega))
theorem putFn_len (f : Fn) : (putFn f).length ≤ f.1.length + f.2.length + 21 := by
  have h1 := (encU_len f.1.length).2
  have h2 := (encU_len f.2.length).2
  have e : putFn f = [96] ++ (encU f.1.length ++ (f.1 ++ (encU f.2.length ++ f.2))) := by unfold putFn; simp
  rw [e]
  simp only [List.length_append, List.length_cons, List.length_nil]
  omega
theorem putLim_len (l : Lim) : (putLim l).length ≤ 21 ∧ 0 < (putLim l).length := by
  obtain ⟨a, b, has⟩ := l
  have h1 := (encU_len a).2
  have h2 := (encU_len b).2
  cases has with
  | true => rw [putLim_yes]; simp only [List.length_append, List.length_cons, List.length_nil]; omega
  | false => rw [putLim_no]; simp only [List.length_append, List.length_cons, List.length_nil]; omega
theorem FnV.is {X : Nat → Prop} {w : World} {v : Value} {f : Fn} (h : FnV X w v f) : IsBytes f.1 ∧ IsBytes f.2 := by
  obtain ⟨A, c, B, d, h1, h2, h3, h4, h5, h6⟩ := h
  exact ⟨h2.1, h5.1⟩
end Go.Proofs.Ytnjbijndfbobbaa
