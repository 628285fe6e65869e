/- Slices of numbers of 64 bits, and strings that are appended: what the walks lean on. No function of the program. -/
import Derived.Test.YtfmncljcogijhaaMem
import Derived.Lib.AppendStr
import Derived.Lib.LazyBuf
namespace Go.Proofs.Ytfmncljcogijhaa
open Go.RowKit
set_option maxRecDepth 100000
set_option linter.unusedVariables false

theorem under_nums : Try.prog.underlying 95 = some (.slice 27) := Try.underlying95
theorem num_info : (Try.prog.info? 27).map (fun i => (i.zero, i.size, i.bytes)) = some (some (.int .u64 0), 1, 8) := by kernel_rfl
theorem num_size : (Try.prog.info? 27).map (·.size) = some 1 := by kernel_rfl
def IsU64 (l : List Int) : Prop := ∀ z ∈ l, 0 ≤ z ∧ z < 18446744073709551616
theorem IsU64.nil : IsU64 [] := fun z hz => by simp at hz
theorem IsU64.app {a b : List Int} (ha : IsU64 a) (hb : IsU64 b) : IsU64 (a ++ b) := fun z hz => by
  rcases List.mem_append.1 hz with h | h
  · exact ha z h
  · exact hb z h
theorem IsU64.one {z : Int} (h0 : 0 ≤ z) (h1 : z < 18446744073709551616) : IsU64 [z] := fun y hy => by simp at hy; subst hy; exact ⟨h0, h1⟩
/-- A slice of numbers in a block of the call's own. -/
def OwnU (w : World) (base : Nat) (v : Value) (l : List Int) : Prop := w.ownsRow base 27 1 v l.length (l.map (Value.int .u64))
/-- Numbers that are read, in blocks of X. -/
def RdU (X : Nat → Prop) (w : World) (A : Option Addr) (l : List Int) : Prop := IsU64 l ∧ RdV X w A (l.map (Value.int .u64))
section
variable {X : Nat → Prop} {w w' : World} {A : Option Addr} {l : List Int} {B : Nat}
theorem RdU.chg {S : Nat → Prop} (h : RdU X w A l) (hc : Chg S w w') (hs : ∀ k, k < w.heap.size → X k → ¬ S k) : RdU X w' A l := ⟨h.1, h.2.chg hc hs⟩
theorem RdU.drewN (h : RdU X w A l) (n : Nat) : RdU X (w.drewN n) A l := ⟨h.1, h.2.drewN n⟩
theorem RdU.later (h : RdU X w A l) (hc : Below w.heap.size w w') : RdU X w' A l := ⟨h.1, h.2.later hc⟩
theorem RdU.mono {Y : Nat → Prop} (h : RdU X w A l) (hx : ∀ k, k < w.heap.size → X k → Y k) : RdU Y w A l := ⟨h.1, h.2.mono hx⟩
theorem RdU.nil (X : Nat → Prop) (w : World) (A : Option Addr) : RdU X w A [] := ⟨IsU64.nil, RdV.nil _ _ _⟩
theorem map_u64_get {j : Nat} (hj : j < l.length) : (l.map (Value.int .u64))[j]? = some (.int .u64 (l.getD j 0)) := by
  simp [List.getElem?_eq_getElem hj, List.getD_eq_getElem?_getD]
theorem RdU.at_ (h : RdU X w A l) {j : Nat} (hj : j < l.length) : ∃ b o, A = some ⟨b, o, none⟩ ∧ w.cell? ⟨b, o + j, none⟩ = some (.int .u64 (l.getD j 0)) ∧ 0 ≤ l.getD j 0 ∧ l.getD j 0 < 18446744073709551616 := by
  obtain ⟨b, o, hA, hX, hlt, hc⟩ := h.2.spot (by simp; omega)
  refine ⟨b, o, hA, hc j _ (map_u64_get hj), h.1 _ ?_⟩
  rw [List.getD_eq_getElem?_getD, List.getElem?_eq_getElem hj]; exact List.getElem_mem hj
end
theorem OwnU.nil (w : World) (base : Nat) : OwnU w base (.slice none 0 0) [] := World.ownsRow_nil w base _ _
theorem OwnU.rdU {w : World} {base : Nat} {v : Value} {l : List Int} (h : OwnU w base v l) (hl : IsU64 l) : ∃ A c, v = .slice A l.length c ∧ l.length ≤ c ∧ c ≤ maxLen ∧ RdU (fun k => v.ownBlock = some k) w A l := by
  obtain ⟨A, c, h1, h2, h3, h4⟩ := RdV.of_own h
  exact ⟨A, c, h1, h2, h3, hl, h4⟩
theorem OwnU.chg {S : Nat → Prop} {w w' : World} {base : Nat} {v : Value} {l : List Int} (h : OwnU w base v l) (hc : Chg S w w') (hg : ∀ g, v.ownBlock = some g → ¬ S g) : OwnU w' base v l := owns_chg h hc hg
theorem OwnU.later {w w' : World} {base : Nat} {v : Value} {l : List Int} (h : OwnU w base v l) (hb : Below w.heap.size w w') : OwnU w' base v l := h.chg (S := fun _ => False) (Chg.of_below hb) fun _ _ => id
theorem OwnU.base {w : World} {base base' : Nat} {v : Value} {l : List Int} (h : OwnU w base v l) (hb : base' ≤ base) : OwnU w base' v l := owns_base h hb

/-- The block that was just built for some numbers. -/
theorem rdU_lit (w : World) (l : List Int) (hl : IsU64 l) : RdU (fun k => k = w.heap.size) (w.alloc (.cells (l.map (Value.int .u64)).toArray 27)) (some ⟨w.heap.size, 0, none⟩) l := by
  refine ⟨hl, fun j u hu => ⟨_, rfl, by simp, ?_⟩⟩
  have h := (Own.new w 27 (l.map (Value.int .u64))).cell j
  rw [addPlain, Nat.zero_add, h, hu]

/-- append(s, z): one number more, out of the block that was just built for it. -/
theorem wpList_appU1 {ops : Array Oper} {rest : List Oper} {o : Oper} {a : Act} {Q : Exit → Act → World → Prop} {w : World} (hgd : o.guard = none) (s x : Operand)
    (ho : o.op = .call { callee := .builtin .append, args := #[s, x], argTypes := #[95, 95] }) (base : Nat) (v : Value) (l : List Int) (hs : a.eval s = v) (hown : OwnU w base v l)
    (z : Int) (hx : a.eval x = .slice (some ⟨w.heap.size, 0, none⟩) 1 1) (hz0 : 0 ≤ z) (hz1 : z < 18446744073709551616) (hlen : l.length + 1 ≤ 1000000000) (hbase : base ≤ w.heap.size)
    (h : ∀ v' w', OwnU w' base v' (l ++ [z]) → Below base w w' → wpList Try.prog ops Q rest (a.put o.dst v') w') : wpList Try.prog ops Q (o :: rest) a (w.alloc (.cells #[.int .u64 z] 27)) := by
  have hb : Below w.heap.size w (w.alloc (.cells #[.int .u64 z] 27)) := (Below.refl _ _).alloc (Nat.le_refl _) _
  have hr := rdU_lit w [z] (IsU64.one hz0 hz1)
  have hown' := hown.later hb
  refine wpList_appG under_nums num_info rfl (by omega) hgd s x ho base v l.length _ hs hown' _ 1 1 ([z].map (Value.int .u64)) hx (by simp) hr.2 (fun u hu => by obtain ⟨y, _, rfl⟩ := List.mem_map.1 hu; rfl) (by simp only [maxLen]; omega) (by omega) (by simp; omega) fun v' w' h1 h2 h3 => h v' w' ?_ ?_
  · unfold OwnU; simpa using h1
  · exact (hb.mono hbase).trans ((Chg.of_grown h2).below (by simp; omega) fun i hi e => by have := owns_ge hown' e.symm; omega)

/-- What grew by appending: of the old blocks its own alone may have turned. -/
def Grew (v : Value) (w : World) (v' : Value) (w' : World) : Prop := Chg (fun k => v.ownBlock = some k) w w' ∧ ∀ k, v'.ownBlock = some k → v.ownBlock = some k ∨ w.heap.size ≤ k
theorem Grew.refl (v : Value) (w : World) : Grew v w v w := ⟨Chg.refl _ _, fun k h => .inl h⟩
theorem Grew.trans {v v1 v2 : Value} {w w1 w2 : World} (h1 : Grew v w v1 w1) (h2 : Grew v1 w1 v2 w2) : Grew v w v2 w2 := by
  have hs := h1.1.size
  refine ⟨h1.1.trans h2.1 fun k hk e => ?_, fun k hk => ?_⟩
  · rcases h1.2 k e with h | h
    · exact h
    · omega
  · rcases h2.2 k hk with h | h
    · exact h1.2 k h
    · exact .inr (by omega)
theorem Grew.of_grown {v v' : Value} {w w' : World} (h : w.grownBy w' v.ownBlock) (h2 : v'.ownBlock = v.ownBlock ∨ v'.ownBlock = some w.heap.size) : Grew v w v' w' := by
  refine ⟨(Chg.of_grown h).mono fun k _ e => e.symm, fun k hk => ?_⟩
  rcases h2 with e | e
  · exact .inl (by rw [← e]; exact hk)
  · rw [e] at hk; injection hk with hk; exact .inr (by omega)
theorem Grew.before {v v' : Value} {w0 w w' : World} (h : Grew v w v' w') (hb : Below w0.heap.size w0 w) (hv : ∀ k, v.ownBlock = some k → k < w0.heap.size) : Grew v w0 v' w' := by
  have hs := hb.size
  refine ⟨(Chg.of_below (S := fun k => v.ownBlock = some k) hb).trans h.1 fun k _ e => e, fun k hk => ?_⟩
  rcases h.2 k hk with e | e
  · exact .inl e
  · exact .inr (by omega)
theorem Grew.after {v v' : Value} {w w' w2 : World} (h : Grew v w v' w') (hb : Below w'.heap.size w' w2) : Grew v w v' w2 := ⟨h.1.trans (Chg.of_below (S := fun _ => False) hb) fun _ _ e => e.elim, h.2⟩
theorem Grew.below {v v' : Value} {w w' : World} {B : Nat} (h : Grew v w v' w') (hB : B ≤ w.heap.size) (hv : ∀ k, v.ownBlock = some k → B ≤ k) : Below B w w' := h.1.below hB fun k hk e => by have := hv k e; omega
theorem OwnB.lt {w : World} {base : Nat} {v : Value} {l : List Int} (h : OwnB w base v l) {k : Nat} (hk : v.ownBlock = some k) : k < w.heap.size := owns_lt h hk

theorem rdX_lit (w : World) (l : List Int) (hl : IsBytes l) : RdX (fun k => k = w.heap.size) (w.alloc (.cells (l.map (Value.int .u8)).toArray 5)) (some ⟨w.heap.size, 0, none⟩) l := by
  refine ⟨hl, fun j u hu => ⟨_, rfl, by simp, ?_⟩⟩
  have h := (Own.new w 5 (l.map (Value.int .u8))).cell j
  rw [addPlain, Nat.zero_add, h, hu]
/-- append(s, z): one byte more, out of the block that was just built for it. -/
theorem wpList_app1G {ops : Array Oper} {rest : List Oper} {o : Oper} {a : Act} {Q : Exit → Act → World → Prop} {w : World} (hgd : o.guard = none) (s x : Operand)
    (ho : o.op = .call { callee := .builtin .append, args := #[s, x], argTypes := #[22, 22] }) (base : Nat) (v : Value) (l : List Int) (hs : a.eval s = v) (hown : OwnB w base v l)
    (z : Int) (hx : a.eval x = .slice (some ⟨w.heap.size, 0, none⟩) 1 1) (hz0 : 0 ≤ z) (hz1 : z ≤ 255) (hlen : l.length + 1 ≤ 1000000000) (hbase : base ≤ w.heap.size)
    (h : ∀ v' w', OwnB w' base v' (l ++ [z]) → Grew v w v' w' → wpList Try.prog ops Q rest (a.put o.dst v') w') : wpList Try.prog ops Q (o :: rest) a (w.alloc (.cells #[.int .u8 z] 5)) := by
  have hb : Below w.heap.size w (w.alloc (.cells #[.int .u8 z] 5)) := (Below.refl _ _).alloc (Nat.le_refl _) _
  refine wpList_appB hgd s x ho base v l hs (hown.later hb) _ 1 1 [z] hx rfl (rdX_lit w [z] (IsBytes.one hz0 hz1)) hlen (by simp; omega) fun v' w' h1 h2 h3 => h v' w' h1 ((Grew.of_grown h2 h3).before hb fun k hk => owns_lt hown hk)
/-- append(s, x...), of bytes. -/
theorem wpList_appXG {X : Nat → Prop} {ops : Array Oper} {rest : List Oper} {o : Oper} {a : Act} {Q : Exit → Act → World → Prop} {w : World} (hgd : o.guard = none) (s x : Operand)
    (ho : o.op = .call { callee := .builtin .append, args := #[s, x], argTypes := #[22, 22] }) (base : Nat) (v : Value) (l : List Int) (hs : a.eval s = v) (hown : OwnB w base v l)
    (A : Option Addr) (m c : Nat) (news : List Int) (hx : a.eval x = .slice A m c) (hm : m = news.length) (hr : RdX X w A news) (hlen : l.length + m ≤ 1000000000) (hbase : base ≤ w.heap.size)
    (h : ∀ v' w', OwnB w' base v' (l ++ news) → Grew v w v' w' → wpList Try.prog ops Q rest (a.put o.dst v') w') : wpList Try.prog ops Q (o :: rest) a w :=
  wpList_appB hgd s x ho base v l hs hown A m c news hx hm hr hlen hbase fun v' w' h1 h2 h3 => h v' w' h1 (Grew.of_grown h2 h3)
theorem strCells_nums (l : List Int) (hl : IsBytes l) : Lib.strCells (strOfNums l) = l.map (Value.int .u8) := by
  simp only [Lib.strCells, strOfNums_data, List.map_map]
  apply List.map_congr_left
  intro z hz
  obtain ⟨h0, h1⟩ := hl z hz
  simp only [Function.comp]
  rw [UInt8.toNat_ofNat_of_lt' (by simp; omega)]
  congr 1; omega
theorem run_appStr (w : World) (base : Nat) (v : Value) (l : List Int) (ty : TypeId) (hown : OwnB w base v l) (news : List Int) (hnb : IsBytes news) (hlen : l.length + news.length ≤ 1000000000) (hbase : base ≤ w.heap.size) :
    ∃ v' w', (Builtin.append_ #[22, 9] ty #[v, .string (strOfNums news)]).run Try.prog w = .ok v' w' ∧ OwnB w' base v' (l ++ news) ∧ Grew v w v' w' := by
  obtain ⟨i, hi, hz, hsz, hb⟩ := info_parts byte_info
  have hss : (strOfNums news).size = news.length := strOfNums_size news
  obtain ⟨v', w', hr, h2, h3, h4⟩ := Lib.run_append_own_string (P := Try.prog) w base 22 9 ty 5 i under_bytes under_string hi hz hsz hb v l.length _ hown (strOfNums news) (by simp only [maxLen]; omega) (by omega) hbase
  refine ⟨v', w', hr, ?_, Grew.of_grown h3 ?_⟩
  · rw [strCells_nums news hnb, hss] at h2; unfold OwnB; simpa using h2
  · rcases hown.2 with ⟨rfl, h0⟩ | ⟨g, cap, cur, rfl, hbg, hg, hnc, hcm, hcs, htake⟩
    · by_cases hm : (strOfNums news).size = 0
      · rw [h4.2 ⟨rfl, hm⟩]; exact .inl rfl
      · have hr' := run_append_nil_string (P := Try.prog) w 22 9 ty 5 i (.int .u8 0) under_bytes under_string hi hz (strOfNums news) (by omega) (by omega) (by rw [hb]; omega)
        rw [hr'] at hr
        injection hr with hr _
        rw [← hr]; exact .inr rfl
    · by_cases hroom : l.length + (strOfNums news).size ≤ cap
      · have hcs' : cur.size = cap := by simpa using hcs
        have hr' := Lib.run_append_room_string (P := Try.prog) w 22 9 ty 5 i under_bytes under_string hi hsz g l.length cap cur hg (strOfNums news) hroom (by omega)
        rw [hr'] at hr
        injection hr with hr _
        rw [← hr]; exact .inl rfl
      · have holds : ∀ j u, (l.map (Value.int .u8))[j]? = some u → w.cell? ((⟨g, 0, none⟩ : Addr).add j) = some u := World.ownsRow.cells hown (g := g) rfl
        have hr' := Lib.run_append_grow_string (P := Try.prog) w 22 9 ty 5 i (.int .u8 0) under_bytes under_string hi hz ⟨g, 0, none⟩ l.length cap (l.map (Value.int .u8)) (by rw [hsz]; simp) holds (strOfNums news) (by omega) (by omega) (by rw [hb]; exact growslice_fits (by omega) (by omega))
        rw [hr'] at hr
        injection hr with hr _
        rw [← hr]; exact .inr rfl
/-- append(s, t...), t a string. -/
theorem wpList_appStr {ops : Array Oper} {rest : List Oper} {o : Oper} {a : Act} {Q : Exit → Act → World → Prop} {w : World} (hgd : o.guard = none) (s x : Operand)
    (ho : o.op = .call { callee := .builtin .append, args := #[s, x], argTypes := #[22, 9] }) (base : Nat) (v : Value) (l : List Int) (hs : a.eval s = v) (hown : OwnB w base v l)
    (news : List Int) (hnb : IsBytes news) (hx : a.eval x = .string (strOfNums news)) (hlen : l.length + news.length ≤ 1000000000) (hbase : base ≤ w.heap.size)
    (h : ∀ v' w', OwnB w' base v' (l ++ news) → Grew v w v' w' → wpList Try.prog ops Q rest (a.put o.dst v') w') : wpList Try.prog ops Q (o :: rest) a w := by
  obtain ⟨v', w', hrun, h1, h2⟩ := run_appStr w base v l o.type hown news hnb hlen hbase
  exact Lib.wpList_append_run w hgd s x _ _ ho _ _ hs hx v' w' hrun (h v' w' h1 h2)
end Go.Proofs.Ytfmncljcogijhaa
