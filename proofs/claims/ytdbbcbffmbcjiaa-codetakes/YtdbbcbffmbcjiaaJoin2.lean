/- Texts joined: Nums, LebMath, LebRead, Concat, LebPut0. -/
import Derived.Test.YtdbbcbffmbcjiaaJoin1
import Derived.Lib.AppendStr
import Derived.Lib.LazyBuf
import Derived.Laws.BitsAllLaws
import Derived.Laws.BitsLemmas
import Derived.Laws.Bits64
import Derived.Below
/- Slices of numbers of 64 bits, and strings that are appended: what the walks lean on. No function of the program. -/
namespace Go.Proofs.Ytdbbcbffmbcjiaa
open Go.RowKit
set_option maxRecDepth 100000
set_option linter.unusedVariables false

theorem under_nums : Try.prog.underlying 146 = some (.slice 40) := Try.underlying146
theorem num_info : (Try.prog.info? 40).map (fun i => (i.zero, i.size, i.bytes)) = some (some (.int .u64 0), 1, 8) := by kernel_rfl
theorem num_size : (Try.prog.info? 40).map (·.size) = some 1 := by kernel_rfl
def IsU64 (l : List Int) : Prop := ∀ z ∈ l, 0 ≤ z ∧ z < 18446744073709551616
theorem IsU64.nil : IsU64 [] := fun z hz => by simp at hz
theorem IsU64.app {a b : List Int} (ha : IsU64 a) (hb : IsU64 b) : IsU64 (a ++ b) := fun z hz => by
  rcases List.mem_append.1 hz with h | h
  · exact ha z h
  · exact hb z h
theorem IsU64.one {z : Int} (h0 : 0 ≤ z) (h1 : z < 18446744073709551616) : IsU64 [z] := fun y hy => by simp at hy; subst hy; exact ⟨h0, h1⟩
/-- A slice of numbers in a block of the call's own. -/
def OwnU (w : World) (base : Nat) (v : Value) (l : List Int) : Prop := w.ownsRow base 40 1 v l.length (l.map (Value.int .u64))
/-- Numbers that are read, in blocks of X. -/
def RdU (X : Nat → Prop) (w : World) (A : Option Addr) (l : List Int) : Prop := IsU64 l ∧ RdV X w A (l.map (Value.int .u64))
section
variable {X : Nat → Prop} {w w' : World} {A : Option Addr} {l : List Int} {B : Nat}
theorem RdU.chg {S : Nat → Prop} (h : RdU X w A l) (hc : Chg S w w') (hs : ∀ k, k < w.heap.size → X k → ¬ S k) : RdU X w' A l := ⟨h.1, h.2.chg hc hs⟩
theorem RdU.drewN (h : RdU X w A l) (n : Nat) : RdU X (w.drewN n) A l := ⟨h.1, h.2.drewN n⟩
theorem RdU.later (h : RdU X w A l) (hc : Below w.heap.size w w') : RdU X w' A l := ⟨h.1, h.2.later hc⟩
theorem RdU.mono {Y : Nat → Prop} (h : RdU X w A l) (hx : ∀ k, k < w.heap.size → X k → Y k) : RdU Y w A l := ⟨h.1, h.2.mono hx⟩
theorem RdU.nil (X : Nat → Prop) (w : World) (A : Option Addr) : RdU X w A [] := ⟨IsU64.nil, RdV.nil _ _ _⟩
theorem map_u64_get {j : Nat} (hj : j < l.length) : (l.map (Value.int .u64))[j]? = some (.int .u64 (l.getD j 0)) := by
  simp [List.getElem?_eq_getElem hj, List.getD_eq_getElem?_getD]
theorem RdU.at_ (h : RdU X w A l) {j : Nat} (hj : j < l.length) : ∃ b o, A = some ⟨b, o, none⟩ ∧ w.cell? ⟨b, o + j, none⟩ = some (.int .u64 (l.getD j 0)) ∧ 0 ≤ l.getD j 0 ∧ l.getD j 0 < 18446744073709551616 := by
  obtain ⟨b, o, hA, hX, hlt, hc⟩ := h.2.spot (by simp; omega)
  refine ⟨b, o, hA, hc j _ (map_u64_get hj), h.1 _ ?_⟩
  rw [List.getD_eq_getElem?_getD, List.getElem?_eq_getElem hj]; exact List.getElem_mem hj
end
theorem OwnU.nil (w : World) (base : Nat) : OwnU w base (.slice none 0 0) [] := World.ownsRow_nil w base _ _
theorem OwnU.rdU {w : World} {base : Nat} {v : Value} {l : List Int} (h : OwnU w base v l) (hl : IsU64 l) : ∃ A c, v = .slice A l.length c ∧ l.length ≤ c ∧ c ≤ maxLen ∧ RdU (fun k => v.ownBlock = some k) w A l := by
  obtain ⟨A, c, h1, h2, h3, h4⟩ := RdV.of_own h
  exact ⟨A, c, h1, h2, h3, hl, h4⟩
theorem OwnU.chg {S : Nat → Prop} {w w' : World} {base : Nat} {v : Value} {l : List Int} (h : OwnU w base v l) (hc : Chg S w w') (hg : ∀ g, v.ownBlock = some g → ¬ S g) : OwnU w' base v l := owns_chg h hc hg
theorem OwnU.later {w w' : World} {base : Nat} {v : Value} {l : List Int} (h : OwnU w base v l) (hb : Below w.heap.size w w') : OwnU w' base v l := h.chg (S := fun _ => False) (Chg.of_below hb) fun _ _ => id
theorem OwnU.base {w : World} {base base' : Nat} {v : Value} {l : List Int} (h : OwnU w base v l) (hb : base' ≤ base) : OwnU w base' v l := owns_base h hb

/-- The block that was just built for some numbers. -/
theorem rdU_lit (w : World) (l : List Int) (hl : IsU64 l) : RdU (fun k => k = w.heap.size) (w.alloc (.cells (l.map (Value.int .u64)).toArray 40)) (some ⟨w.heap.size, 0, none⟩) l := by
  refine ⟨hl, fun j u hu => ⟨_, rfl, by simp, ?_⟩⟩
  have h := (Own.new w 40 (l.map (Value.int .u64))).cell j
  rw [addPlain, Nat.zero_add, h, hu]

/-- append(s, z): one number more, out of the block that was just built for it. -/
theorem wpList_appU1 {ops : Array Oper} {rest : List Oper} {o : Oper} {a : Act} {Q : Exit → Act → World → Prop} {w : World} (hgd : o.guard = none) (s x : Operand)
    (ho : o.op = .call { callee := .builtin .append, args := #[s, x], argTypes := #[146, 146] }) (base : Nat) (v : Value) (l : List Int) (hs : a.eval s = v) (hown : OwnU w base v l)
    (z : Int) (hx : a.eval x = .slice (some ⟨w.heap.size, 0, none⟩) 1 1) (hz0 : 0 ≤ z) (hz1 : z < 18446744073709551616) (hlen : l.length + 1 ≤ 1000000000) (hbase : base ≤ w.heap.size)
    (h : ∀ v' w', OwnU w' base v' (l ++ [z]) → Below base w w' → wpList Try.prog ops Q rest (a.put o.dst v') w') : wpList Try.prog ops Q (o :: rest) a (w.alloc (.cells #[.int .u64 z] 40)) := by
  have hb : Below w.heap.size w (w.alloc (.cells #[.int .u64 z] 40)) := (Below.refl _ _).alloc (Nat.le_refl _) _
  have hr := rdU_lit w [z] (IsU64.one hz0 hz1)
  have hown' := hown.later hb
  refine wpList_appG under_nums num_info rfl (by omega) hgd s x ho base v l.length _ hs hown' _ 1 1 ([z].map (Value.int .u64)) hx (by simp) hr.2 (fun u hu => by obtain ⟨y, _, rfl⟩ := List.mem_map.1 hu; rfl) (by simp only [maxLen]; omega) (by omega) (by simp; omega) fun v' w' h1 h2 h3 => h v' w' ?_ ?_
  · unfold OwnU; simpa using h1
  · exact (hb.mono hbase).trans ((Chg.of_grown h2).below (by simp; omega) fun i hi e => by have := owns_ge hown' e.symm; omega)

/-- What grew by appending: of the old blocks its own alone may have turned. -/
def Grew (v : Value) (w : World) (v' : Value) (w' : World) : Prop := Chg (fun k => v.ownBlock = some k) w w' ∧ ∀ k, v'.ownBlock = some k → v.ownBlock = some k ∨ w.heap.size ≤ k
theorem Grew.refl (v : Value) (w : World) : Grew v w v w := ⟨Chg.refl _ _, fun k h => .inl h⟩
theorem Grew.trans {v v1 v2 : Value} {w w1 w2 : World} (h1 : Grew v w v1 w1) (h2 : Grew v1 w1 v2 w2) : Grew v w v2 w2 := by
  have hs := h1.1.size
  refine ⟨h1.1.trans h2.1 fun k hk e => ?_, fun k hk => ?_⟩
  · rcases h1.2 k e with h | h
    · exact h
    · omega
  · rcases h2.2 k hk with h | h
    · exact h1.2 k h
    · exact .inr (by omega)
theorem Grew.of_grown {v v' : Value} {w w' : World} (h : w.grownBy w' v.ownBlock) (h2 : v'.ownBlock = v.ownBlock ∨ v'.ownBlock = some w.heap.size) : Grew v w v' w' := by
  refine ⟨(Chg.of_grown h).mono fun k _ e => e.symm, fun k hk => ?_⟩
  rcases h2 with e | e
  · exact .inl (by rw [← e]; exact hk)
  · rw [e] at hk; injection hk with hk; exact .inr (by omega)
theorem Grew.before {v v' : Value} {w0 w w' : World} (h : Grew v w v' w') (hb : Below w0.heap.size w0 w) (hv : ∀ k, v.ownBlock = some k → k < w0.heap.size) : Grew v w0 v' w' := by
  have hs := hb.size
  refine ⟨(Chg.of_below (S := fun k => v.ownBlock = some k) hb).trans h.1 fun k _ e => e, fun k hk => ?_⟩
  rcases h.2 k hk with e | e
  · exact .inl e
  · exact .inr (by omega)
theorem Grew.after {v v' : Value} {w w' w2 : World} (h : Grew v w v' w') (hb : Below w'.heap.size w' w2) : Grew v w v' w2 := ⟨h.1.trans (Chg.of_below (S := fun _ => False) hb) fun _ _ e => e.elim, h.2⟩
theorem Grew.below {v v' : Value} {w w' : World} {B : Nat} (h : Grew v w v' w') (hB : B ≤ w.heap.size) (hv : ∀ k, v.ownBlock = some k → B ≤ k) : Below B w w' := h.1.below hB fun k hk e => by have := hv k e; omega
theorem OwnB.lt {w : World} {base : Nat} {v : Value} {l : List Int} (h : OwnB w base v l) {k : Nat} (hk : v.ownBlock = some k) : k < w.heap.size := owns_lt h hk

theorem rdX_lit (w : World) (l : List Int) (hl : IsBytes l) : RdX (fun k => k = w.heap.size) (w.alloc (.cells (l.map (Value.int .u8)).toArray 5)) (some ⟨w.heap.size, 0, none⟩) l := by
  refine ⟨hl, fun j u hu => ⟨_, rfl, by simp, ?_⟩⟩
  have h := (Own.new w 5 (l.map (Value.int .u8))).cell j
  rw [addPlain, Nat.zero_add, h, hu]
/-- append(s, z): one byte more, out of the block that was just built for it. -/
theorem wpList_app1G {ops : Array Oper} {rest : List Oper} {o : Oper} {a : Act} {Q : Exit → Act → World → Prop} {w : World} (hgd : o.guard = none) (s x : Operand)
    (ho : o.op = .call { callee := .builtin .append, args := #[s, x], argTypes := #[22, 22] }) (base : Nat) (v : Value) (l : List Int) (hs : a.eval s = v) (hown : OwnB w base v l)
    (z : Int) (hx : a.eval x = .slice (some ⟨w.heap.size, 0, none⟩) 1 1) (hz0 : 0 ≤ z) (hz1 : z ≤ 255) (hlen : l.length + 1 ≤ 1000000000) (hbase : base ≤ w.heap.size)
    (h : ∀ v' w', OwnB w' base v' (l ++ [z]) → Grew v w v' w' → wpList Try.prog ops Q rest (a.put o.dst v') w') : wpList Try.prog ops Q (o :: rest) a (w.alloc (.cells #[.int .u8 z] 5)) := by
  have hb : Below w.heap.size w (w.alloc (.cells #[.int .u8 z] 5)) := (Below.refl _ _).alloc (Nat.le_refl _) _
  refine wpList_appB hgd s x ho base v l hs (hown.later hb) _ 1 1 [z] hx rfl (rdX_lit w [z] (IsBytes.one hz0 hz1)) hlen (by simp; omega) fun v' w' h1 h2 h3 => h v' w' h1 ((Grew.of_grown h2 h3).before hb fun k hk => owns_lt hown hk)
/-- append(s, x...), of bytes. -/
theorem wpList_appXG {X : Nat → Prop} {ops : Array Oper} {rest : List Oper} {o : Oper} {a : Act} {Q : Exit → Act → World → Prop} {w : World} (hgd : o.guard = none) (s x : Operand)
    (ho : o.op = .call { callee := .builtin .append, args := #[s, x], argTypes := #[22, 22] }) (base : Nat) (v : Value) (l : List Int) (hs : a.eval s = v) (hown : OwnB w base v l)
    (A : Option Addr) (m c : Nat) (news : List Int) (hx : a.eval x = .slice A m c) (hm : m = news.length) (hr : RdX X w A news) (hlen : l.length + m ≤ 1000000000) (hbase : base ≤ w.heap.size)
    (h : ∀ v' w', OwnB w' base v' (l ++ news) → Grew v w v' w' → wpList Try.prog ops Q rest (a.put o.dst v') w') : wpList Try.prog ops Q (o :: rest) a w :=
  wpList_appB hgd s x ho base v l hs hown A m c news hx hm hr hlen hbase fun v' w' h1 h2 h3 => h v' w' h1 (Grew.of_grown h2 h3)
theorem strCells_nums (l : List Int) (hl : IsBytes l) : Lib.strCells (strOfNums l) = l.map (Value.int .u8) := by
  simp only [Lib.strCells, strOfNums_data, List.map_map]
  apply List.map_congr_left
  intro z hz
  obtain ⟨h0, h1⟩ := hl z hz
  simp only [Function.comp]
  rw [UInt8.toNat_ofNat_of_lt' (by simp; omega)]
  congr 1; omega
theorem run_appStr (w : World) (base : Nat) (v : Value) (l : List Int) (ty : TypeId) (hown : OwnB w base v l) (news : List Int) (hnb : IsBytes news) (hlen : l.length + news.length ≤ 1000000000) (hbase : base ≤ w.heap.size) :
    ∃ v' w', (Builtin.append_ #[22, 9] ty #[v, .string (strOfNums news)]).run Try.prog w = .ok v' w' ∧ OwnB w' base v' (l ++ news) ∧ Grew v w v' w' := by
  obtain ⟨i, hi, hz, hsz, hb⟩ := info_parts byte_info
  have hss : (strOfNums news).size = news.length := strOfNums_size news
  obtain ⟨v', w', hr, h2, h3, h4⟩ := Lib.run_append_own_string (P := Try.prog) w base 22 9 ty 5 i under_bytes under_string hi hz hsz hb v l.length _ hown (strOfNums news) (by simp only [maxLen]; omega) (by omega) hbase
  refine ⟨v', w', hr, ?_, Grew.of_grown h3 ?_⟩
  · rw [strCells_nums news hnb, hss] at h2; unfold OwnB; simpa using h2
  · rcases hown.2 with ⟨rfl, h0⟩ | ⟨g, cap, cur, rfl, hbg, hg, hnc, hcm, hcs, htake⟩
    · by_cases hm : (strOfNums news).size = 0
      · rw [h4.2 ⟨rfl, hm⟩]; exact .inl rfl
      · have hr' := run_append_nil_string (P := Try.prog) w 22 9 ty 5 i (.int .u8 0) under_bytes under_string hi hz (strOfNums news) (by omega) (by omega) (by rw [hb]; omega)
        rw [hr'] at hr
        injection hr with hr _
        rw [← hr]; exact .inr rfl
    · by_cases hroom : l.length + (strOfNums news).size ≤ cap
      · have hcs' : cur.size = cap := by simpa using hcs
        have hr' := Lib.run_append_room_string (P := Try.prog) w 22 9 ty 5 i under_bytes under_string hi hsz g l.length cap cur hg (strOfNums news) hroom (by omega)
        rw [hr'] at hr
        injection hr with hr _
        rw [← hr]; exact .inl rfl
      · have holds : ∀ j u, (l.map (Value.int .u8))[j]? = some u → w.cell? ((⟨g, 0, none⟩ : Addr).add j) = some u := World.ownsRow.cells hown (g := g) rfl
        have hr' := Lib.run_append_grow_string (P := Try.prog) w 22 9 ty 5 i (.int .u8 0) under_bytes under_string hi hz ⟨g, 0, none⟩ l.length cap (l.map (Value.int .u8)) (by rw [hsz]; simp) holds (strOfNums news) (by omega) (by omega) (by rw [hb]; exact growslice_fits (by omega) (by omega))
        rw [hr'] at hr
        injection hr with hr _
        rw [← hr]; exact .inr rfl
/-- append(s, t...), t a string. -/
theorem wpList_appStr {ops : Array Oper} {rest : List Oper} {o : Oper} {a : Act} {Q : Exit → Act → World → Prop} {w : World} (hgd : o.guard = none) (s x : Operand)
    (ho : o.op = .call { callee := .builtin .append, args := #[s, x], argTypes := #[22, 9] }) (base : Nat) (v : Value) (l : List Int) (hs : a.eval s = v) (hown : OwnB w base v l)
    (news : List Int) (hnb : IsBytes news) (hx : a.eval x = .string (strOfNums news)) (hlen : l.length + news.length ≤ 1000000000) (hbase : base ≤ w.heap.size)
    (h : ∀ v' w', OwnB w' base v' (l ++ news) → Grew v w v' w' → wpList Try.prog ops Q rest (a.put o.dst v') w') : wpList Try.prog ops Q (o :: rest) a w := by
  obtain ⟨v', w', hrun, h1, h2⟩ := run_appStr w base v l o.type hown news hnb hlen hbase
  exact Lib.wpList_append_run w hgd s x _ _ ho _ _ hs hx v' w' hrun (h v' w' h1 h2)
end Go.Proofs.Ytdbbcbffmbcjiaa

/- Plain mathematics of numbers in groups of seven bits: no Go text. What reading gives, what writing gives, and that what is written is read. -/
namespace Go.Proofs.Ytdbbcbffmbcjiaa
open Go.RowKit
set_option maxRecDepth 100000
set_option linter.unusedVariables false

/-- Reading at the front of a list of bytes, from group k on, x read so far: the number, how many bytes, the error. -/
def dec (bits : Int) (fit : Int → Int → Bool) : List Int → Nat → Int → Int × Int × Int
  | [], _, _ => (0, 0, 3)
  | c :: l, k, x =>
    if bits - (k : Int) * 7 ≤ 7 ∧ (128 ≤ c ∨ fit (c % 128) (bits - (k : Int) * 7) = false) then (0, 0, 2)
    else if c < 128 then ((x + c % 128 * 2 ^ (k * 7)) % 18446744073709551616, (k : Int) + 1, 0)
    else dec bits fit l (k + 1) ((x + c % 128 * 2 ^ (k * 7)) % 18446744073709551616)

def fitU (g r : Int) : Bool := g / 2 ^ r.toNat == 0
def fitS (g r : Int) : Bool :=
  let v := wrap64 (IntKind.i8.wrap (g * 2) / 2 ^ r.toNat)
  v == 0 || v == -1

/-- The sign carried on from n groups. -/
def sx (u n : Int) : Int := wrap64 (IntKind.u64.wrap (u * 2 ^ (max 0 (64 - n * 7)).toNat)) / 2 ^ (max 0 (64 - n * 7)).toNat

def rdU (bits : Int) (l : List Int) : Int × Int × Int := dec bits fitU l 0 0
def rdS (bits : Int) (l : List Int) : Int × Int × Int :=
  if (dec bits fitS l 0 0).2.2 = 0 then (sx (dec bits fitS l 0 0).1 (dec bits fitS l 0 0).2.1, (dec bits fitS l 0 0).2.1, 0) else (0, 0, (dec bits fitS l 0 0).2.2)

theorem and128 (c : Int) (h0 : 0 ≤ c) (h1 : c ≤ 255) : Go.bits .andNot .u8 c 128 = c % 128 := by
  rw [u8_andNot c 128 h0 (by omega) (by omega) (by omega), show (255 - (128 : Int).toNat) = 127 from rfl, nat_mask7]
  omega

theorem pow7 (k : Nat) (hk : k ≤ 9) : (2 : Int) ^ (k * 7) = 1 ∨ (2 : Int) ^ (k * 7) = 128 ∨ (2 : Int) ^ (k * 7) = 16384 ∨ (2 : Int) ^ (k * 7) = 2097152 ∨ (2 : Int) ^ (k * 7) = 268435456 ∨ (2 : Int) ^ (k * 7) = 34359738368 ∨ (2 : Int) ^ (k * 7) = 4398046511104 ∨ (2 : Int) ^ (k * 7) = 562949953421312 ∨ (2 : Int) ^ (k * 7) = 72057594037927936 ∨ (2 : Int) ^ (k * 7) = 9223372036854775808 := by
  match k, hk with
  | 0, _ => simp
  | 1, _ => simp
  | 2, _ => simp
  | 3, _ => simp
  | 4, _ => simp
  | 5, _ => simp
  | 6, _ => simp
  | 7, _ => simp
  | 8, _ => simp
  | 9, _ => simp
  | n + 10, h => omega

theorem or_nat (x g k : Nat) (hx : x < 2 ^ (k * 7)) (hk : k ≤ 9) (hg : g < 128) :
    (x ||| (g * 2 ^ (k * 7)) % 18446744073709551616) = (x + g * 2 ^ (k * 7)) % 18446744073709551616 := by
  have hm : (g * 2 ^ (k * 7)) % 18446744073709551616 % 2 ^ (k * 7) = 0 := by
    have hd : (2 : Nat) ^ (k * 7) ∣ 18446744073709551616 := by
      rw [show (18446744073709551616 : Nat) = 2 ^ 64 from rfl]
      exact Nat.pow_dvd_pow 2 (by omega)
    rw [Nat.mod_mod_of_dvd _ hd, Nat.mul_mod_left]
  rw [Nat.or_comm, nat_join (k * 7) _ x hm hx]
  have hp : (2 : Nat) ^ (k * 7) ≤ 2 ^ 63 := Nat.pow_le_pow_right (by omega) (by omega)
  have hlt : (g * 2 ^ (k * 7)) % 18446744073709551616 + x < 18446744073709551616 := by
    have hq : (g * 2 ^ (k * 7)) % 18446744073709551616 = 2 ^ (k * 7) * (g % 2 ^ (64 - k * 7)) := by
      rw [show (18446744073709551616 : Nat) = 2 ^ (k * 7) * 2 ^ (64 - k * 7) from by rw [← Nat.pow_add, show k * 7 + (64 - k * 7) = 64 from by omega], Nat.mul_comm g, Nat.mul_mod_mul_left]
    have hr : g % 2 ^ (64 - k * 7) < 2 ^ (64 - k * 7) := Nat.mod_lt _ (Nat.two_pow_pos _)
    have : 2 ^ (k * 7) * (g % 2 ^ (64 - k * 7)) + 2 ^ (k * 7) ≤ 2 ^ (k * 7) * 2 ^ (64 - k * 7) := by
      rw [← Nat.mul_succ]; exact Nat.mul_le_mul_left _ hr
    rw [← Nat.pow_add, show k * 7 + (64 - k * 7) = 64 from by omega] at this
    rw [hq]; omega
  omega

/-- One group more. -/
theorem acc_eq (x c : Int) (k : Nat) (h0 : 0 ≤ x) (hx : x < 2 ^ (k * 7)) (hk : k ≤ 9) (h1 : 0 ≤ c) (h2 : c ≤ 255) :
    Go.bits .or .u64 x (IntKind.u64.wrap (c % 128 * 2 ^ (k * 7))) = (x + c % 128 * 2 ^ (k * 7)) % 18446744073709551616 := by
  rw [IntKind.wrap_u64]
  obtain ⟨g, hg⟩ : ∃ g : Nat, c % 128 = g := ⟨(c % 128).toNat, by omega⟩
  obtain ⟨y, rfl⟩ : ∃ y : Nat, x = y := ⟨x.toNat, by omega⟩
  rw [hg]
  have hy : y < 2 ^ (k * 7) := by
    have := hx
    rw [show (2 : Int) ^ (k * 7) = ((2 ^ (k * 7) : Nat) : Int) from by simp] at this
    omega
  have hp : (2 : Nat) ^ (k * 7) ≤ 2 ^ 63 := Nat.pow_le_pow_right (by omega) (by omega)
  have hpe : ((g : Int) * 2 ^ (k * 7)) % 18446744073709551616 = ((g * 2 ^ (k * 7) % 18446744073709551616 : Nat) : Int) := by simp
  rw [hpe, u64_or_nat _ _ (by omega) (by omega), or_nat y g k hy hk (by omega)]
  simp

theorem acc_bd (x c : Int) (k : Nat) (h0 : 0 ≤ x) (hx : x < 2 ^ (k * 7)) (hk : k + 1 ≤ 9) (h1 : 0 ≤ c) (h2 : c ≤ 255) :
    0 ≤ (x + c % 128 * 2 ^ (k * 7)) % 18446744073709551616 ∧ (x + c % 128 * 2 ^ (k * 7)) % 18446744073709551616 < 2 ^ ((k + 1) * 7) := by
  have e : (2 : Int) ^ ((k + 1) * 7) = 2 ^ (k * 7) * 128 := by rw [show (k + 1) * 7 = k * 7 + 7 from by omega, Int.pow_add]; rfl
  have hc : c % 128 ≤ 127 := by omega
  have hc0 : 0 ≤ c % 128 := by omega
  rw [e]
  rcases pow7 k (by omega) with h | h | h | h | h | h | h | h | h | h <;> rw [h] at hx ⊢ <;> omega

/-- One step of reading. -/
theorem dec_drop (bits : Int) (fit : Int → Int → Bool) (l : List Int) (k : Nat) (x : Int) (h : k < l.length) :
    dec bits fit (l.drop k) k x =
      if bits - (k : Int) * 7 ≤ 7 ∧ (128 ≤ l.getD k 0 ∨ fit (l.getD k 0 % 128) (bits - (k : Int) * 7) = false) then (0, 0, 2)
      else if l.getD k 0 < 128 then ((x + l.getD k 0 % 128 * 2 ^ (k * 7)) % 18446744073709551616, (k : Int) + 1, 0)
      else dec bits fit (l.drop (k + 1)) (k + 1) ((x + l.getD k 0 % 128 * 2 ^ (k * 7)) % 18446744073709551616) := by
  rw [List.drop_eq_getElem_cons h]
  simp only [dec, List.getD_eq_getElem?_getD, List.getElem?_eq_getElem h, Option.getD_some]

/-- What reading may come to. -/
theorem dec_cases (bits : Int) (fit : Int → Int → Bool) (hb : bits ≤ 64) (l : List Int) : ∀ (k : Nat) (x : Int), 7 * (k : Int) < bits →
    dec bits fit l k x = (0, 0, 3) ∨ dec bits fit l k x = (0, 0, 2) ∨
      ∃ (u : Int) (m : Nat), dec bits fit l k x = (u, (m : Int), 0) ∧ 0 ≤ u ∧ u < 18446744073709551616 ∧ 1 ≤ m ∧ 7 * (m : Int) < bits + 7 ∧ m ≤ k + l.length := by
  induction l with
  | nil => intro k x _; left; rfl
  | cons c l ih =>
    intro k x hk
    simp only [dec]
    split
    · right; left; rfl
    · split
      · right; right
        exact ⟨(x + c % 128 * 2 ^ (k * 7)) % 18446744073709551616, k + 1, rfl, by omega, by omega, by omega, by omega, by simp⟩
      · rcases ih (k + 1) ((x + c % 128 * 2 ^ (k * 7)) % 18446744073709551616) (by omega) with h | h | ⟨u, m, h, h1, h2, h3, h4, h5⟩
        · exact .inl h
        · exact .inr (.inl h)
        · exact .inr (.inr ⟨u, m, h, h1, h2, h3, h4, by simp; omega⟩)

theorem sx_lt (u : Int) (m : Nat) (h : (m : Int) * 7 < 64) : sx u m = wrap64 (IntKind.u64.wrap (u * 2 ^ (64 - (m : Int) * 7).toNat)) / 2 ^ (64 - (m : Int) * 7).toNat := by
  unfold sx; rw [show max 0 (64 - (m : Int) * 7) = 64 - (m : Int) * 7 from by omega]
theorem sx_ge (u : Int) (m : Nat) (h : 64 ≤ (m : Int) * 7) : sx u m = wrap64 (IntKind.u64.wrap u) := by
  unfold sx; rw [show max 0 (64 - (m : Int) * 7) = 0 from by omega]; simp

/-- The sign by the last group. -/
theorem sx_last (x c : Int) (k : Nat) (h0 : 0 ≤ x) (hx : x < 2 ^ (k * 7)) (hk : k ≤ 8) (h1 : 0 ≤ c) (h2 : c < 128) :
    sx ((x + c % 128 * 2 ^ (k * 7)) % 18446744073709551616) ((k : Int) + 1) = if c < 64 then x + c * 2 ^ (k * 7) else x + c * 2 ^ (k * 7) - 128 * 2 ^ (k * 7) := by
  have e := sx_lt ((x + c % 128 * 2 ^ (k * 7)) % 18446744073709551616) (k + 1) (by omega)
  rw [show ((k + 1 : Nat) : Int) = (k : Int) + 1 from by omega] at e
  rw [e, IntKind.wrap_u64]
  unfold wrap64
  match k, hk with
  | 0, _ => simp at hx ⊢; split <;> omega
  | 1, _ => simp at hx ⊢; split <;> omega
  | 2, _ => simp at hx ⊢; split <;> omega
  | 3, _ => simp at hx ⊢; split <;> omega
  | 4, _ => simp at hx ⊢; split <;> omega
  | 5, _ => simp at hx ⊢; split <;> omega
  | 6, _ => simp at hx ⊢; split <;> omega
  | 7, _ => simp at hx ⊢; split <;> omega
  | 8, _ => simp at hx ⊢; split <;> omega
  | n + 9, h => omega

theorem signed_or (x c : Int) (k : Nat) (h0 : 0 ≤ x) (hx : x < 2 ^ (k * 7)) (hk : k ≤ 8) (h1 : 64 ≤ c) (h2 : c < 128) :
    Go.bits .or .u64 ((x + c % 128 * 2 ^ (k * 7)) % 18446744073709551616) (IntKind.u64.wrap (18446744073709551615 * 2 ^ (k * 7 + 7))) = sx ((x + c % 128 * 2 ^ (k * 7)) % 18446744073709551616) ((k : Int) + 1) % 18446744073709551616 := by
  rw [sx_last x c k h0 hx hk (by omega) h2, if_neg (by omega), IntKind.wrap_u64]
  have hu : 0 ≤ x + c * 2 ^ (k * 7) ∧ x + c * 2 ^ (k * 7) < 2 ^ (k * 7 + 7) ∧ x + c * 2 ^ (k * 7) < 18446744073709551616 := by
    rw [Int.pow_add]
    rcases pow7 k (by omega) with h | h | h | h | h | h | h | h | h | h <;> rw [h] at hx ⊢ <;> (try (exfalso; match k, hk, h with | 0, _, h => simp at h | 1, _, h => simp at h | 2, _, h => simp at h | 3, _, h => simp at h | 4, _, h => simp at h | 5, _, h => simp at h | 6, _, h => simp at h | 7, _, h => simp at h | 8, _, h => simp at h)) <;> omega
  have hc : c % 128 = c := by omega
  rw [hc]
  obtain ⟨u, hu'⟩ : ∃ u : Nat, x + c * 2 ^ (k * 7) = u := ⟨(x + c * 2 ^ (k * 7)).toNat, by omega⟩
  rw [hu'] at hu ⊢
  have e1 : (u : Int) % 18446744073709551616 = ((u : Nat) : Int) := by omega
  have hpn : (2 : Nat) ^ (k * 7 + 7) ≤ 2 ^ 63 := Nat.pow_le_pow_right (by omega) (by omega)
  have hp1 : 1 ≤ (2 : Nat) ^ (k * 7 + 7) := Nat.two_pow_pos _
  have hulit : u < 2 ^ (k * 7 + 7) := by
    have := hu.2.1
    rw [show (2 : Int) ^ (k * 7 + 7) = ((2 ^ (k * 7 + 7) : Nat) : Int) from by simp] at this
    omega
  obtain ⟨N, hN⟩ : ∃ N : Nat, N + 2 ^ (k * 7 + 7) = 18446744073709551616 := ⟨_, Nat.sub_add_cancel (by omega)⟩
  have hd : (2 : Nat) ^ (k * 7 + 7) ∣ N := by
    have hd : (2 : Nat) ^ (k * 7 + 7) ∣ N + 2 ^ (k * 7 + 7) := by
      rw [hN, show (18446744073709551616 : Nat) = 2 ^ 64 from rfl]
      exact Nat.pow_dvd_pow 2 (by omega)
    exact (Nat.dvd_add_iff_left (Nat.dvd_refl _)).2 hd
  have e3 : (128 : Int) * 2 ^ (k * 7) = ((2 ^ (k * 7 + 7) : Nat) : Int) := by
    rw [Nat.pow_add]; simp; omega
  have e2 : (18446744073709551615 * 2 ^ (k * 7 + 7)) % 18446744073709551616 = ((N : Nat) : Int) := by
    rw [show (2 : Int) ^ (k * 7 + 7) = ((2 ^ (k * 7 + 7) : Nat) : Int) from by simp]
    omega
  have hjoin : N ||| u = N + u := nat_join (k * 7 + 7) N u (Nat.mod_eq_zero_of_dvd hd) hulit
  rw [e3, e1, e2]
  generalize (2 : Nat) ^ (k * 7 + 7) = p at *
  rw [u64_or_nat _ _ (by omega) (by omega), Nat.or_comm]
  have hj : N ||| u = N + u := hjoin
  rw [hj]
  omega

theorem fitS_eq (g r : Int) (h0 : 0 ≤ g) (h1 : g < 128) (h2 : 1 ≤ r) (h3 : r ≤ 7) :
    fitS g r = !(g / 2 ^ (r - 1).toNat != 0 && g / 2 ^ (r - 1).toNat != 127 / 2 ^ (r - 1).toNat) := by
  obtain ⟨g, rfl⟩ : ∃ n : Nat, g = n := ⟨g.toNat, by omega⟩
  obtain ⟨r, rfl⟩ : ∃ n : Nat, r = n := ⟨r.toNat, by omega⟩
  have key : ∀ a : Fin 128, ∀ b : Fin 8, 1 ≤ b.val → fitS (a.val : Int) (b.val : Int) = !((a.val : Int) / 2 ^ ((b.val : Int) - 1).toNat != 0 && (a.val : Int) / 2 ^ ((b.val : Int) - 1).toNat != 127 / 2 ^ ((b.val : Int) - 1).toNat) := by decide +kernel
  exact key ⟨g, by omega⟩ ⟨r, by omega⟩ (by simp; omega)

/-! ### What is read behind what is written -/
/-- The bytes of groups: all but the last say that there is more. -/
def bytesOf : List Int → List Int
  | [] => []
  | [g] => [g]
  | g :: h :: gs => (g + 128) :: bytesOf (h :: gs)
def val : List Int → Int
  | [] => 0
  | g :: gs => g + 128 * val gs

theorem bytesOf_length (gs : List Int) : (bytesOf gs).length = gs.length := by
  induction gs with
  | nil => rfl
  | cons g gs ih =>
    cases gs with
    | nil => rfl
    | cons h gs => simpa [bytesOf] using ih

def Groups (gs : List Int) : Prop := ∀ g ∈ gs, 0 ≤ g ∧ g < 128

theorem val_bd (gs : List Int) (h : Groups gs) : 0 ≤ val gs ∧ val gs < 128 ^ gs.length := by
  induction gs with
  | nil => simp [val]
  | cons g gs ih =>
    have hg := h g (by simp)
    have hi := ih (fun x hx => h x (by simp [hx]))
    simp only [val, List.length_cons, Int.pow_succ]
    omega

/-! ### What is written -/
/-- The groups of a number that is not below 0; n: one less than how many there may be. -/
def dgU : Nat → Int → List Int
  | 0, v => [v]
  | n + 1, v => if v < 128 then [v] else v % 128 :: dgU n (v / 128)
/-- The groups of a signed number. -/
def dgS : Nat → Int → List Int
  | 0, v => [v % 128]
  | n + 1, v => if -64 ≤ v ∧ v ≤ 63 then [v % 128] else v % 128 :: dgS n (v / 128)
def encU (v : Int) : List Int := bytesOf (dgU 9 v)
def encS (v : Int) : List Int := bytesOf (dgS 9 v)

theorem dgU_ne (n : Nat) (v : Int) : dgU n v ≠ [] := by cases n <;> simp [dgU]; split <;> simp
theorem dgS_ne (n : Nat) (v : Int) : dgS n v ≠ [] := by cases n <;> simp [dgS]; split <;> simp
theorem bytesOf_cons (g : Int) (gs : List Int) (h : gs ≠ []) : bytesOf (g :: gs) = (g + 128) :: bytesOf gs := by
  cases gs with
  | nil => exact absurd rfl h
  | cons a l => rfl
theorem bytesU_last (n : Nat) (v : Int) (h : v < 128) : bytesOf (dgU n v) = [v] := by
  cases n <;> simp [dgU, bytesOf, h]
theorem bytesU_more (n : Nat) (v : Int) (h : 128 ≤ v) : bytesOf (dgU (n + 1) v) = (v % 128 + 128) :: bytesOf (dgU n (v / 128)) := by
  rw [dgU, if_neg (by omega), bytesOf_cons _ _ (dgU_ne _ _)]
theorem bytesS_last (n : Nat) (v : Int) (h : -64 ≤ v ∧ v ≤ 63) : bytesOf (dgS n v) = [v % 128] := by
  cases n <;> simp [dgS, bytesOf, h]
theorem bytesS_more (n : Nat) (v : Int) (h : ¬ (-64 ≤ v ∧ v ≤ 63)) : bytesOf (dgS (n + 1) v) = (v % 128 + 128) :: bytesOf (dgS n (v / 128)) := by
  rw [dgS, if_neg h, bytesOf_cons _ _ (dgS_ne _ _)]
theorem or128 (c : Int) : Go.bits .or .u8 (c % 256) 128 = c % 128 + 128 := by
  obtain ⟨n, hn⟩ : ∃ n : Nat, c % 256 = n := ⟨(c % 256).toNat, by omega⟩
  rw [hn]
  have key : ∀ a : Fin 256, Go.bits .or .u8 (a.val : Int) 128 = (a.val : Int) % 128 + 128 := by decide +kernel
  have := key ⟨n, by omega⟩
  simp only at this
  rw [this]
  omega
theorem andn128 (c : Int) : Go.bits .andNot .u8 (c % 256) 128 = c % 128 := by
  rw [and128 _ (by omega) (by omega)]; omega
theorem dgU_len (n : Nat) (v : Int) : (dgU n v).length ≤ n + 1 := by
  induction n generalizing v with
  | zero => simp [dgU]
  | succ n ih => simp only [dgU]; split <;> simp; have := ih (v / 128); omega
theorem dgS_len (n : Nat) (v : Int) : (dgS n v).length ≤ n + 1 := by
  induction n generalizing v with
  | zero => simp [dgS]
  | succ n ih => simp only [dgS]; split <;> simp; have := ih (v / 128); omega
end Go.Proofs.Ytdbbcbffmbcjiaa

/- What leb's readers come to, over the given translation: each function's contract. -/
namespace Go.Proofs.Ytdbbcbffmbcjiaa
open Go.RowKit
set_option maxRecDepth 100000
set_option linter.unusedVariables false

theorem noughts_any (g r : Int) (w : World) (hg : 0 ≤ g) (hg2 : g < 128) (hr : 1 ≤ r) (hr2 : r ≤ 7) :
    Calls Try.prog 111 #[.int .u8 g, .int .i64 r] w fun e w' => e = .returned (.bool (fitU g r)) ∧ w = w' := by
  unfold fitU
  go_enter Try.func111, Try.ntmps111
  go_wp2
  go_ret
  exact ⟨rfl, rfl⟩

theorem alike_any (v : Int) (w : World) :
    Calls Try.prog 108 #[.int .i64 v] w fun e w' => e = .returned (.bool (v == 0 || v == -1)) ∧ w = w' := by
  go_enter Try.func108, Try.ntmps108
  go_wp2
  all_goals go_ret
  all_goals exact ⟨by first | rfl | simp [*], rfl⟩

theorem signs_any (g r : Int) (w : World) (hg : 0 ≤ g) (hg2 : g < 128) (hr : 1 ≤ r) (hr2 : r ≤ 7) :
    Calls Try.prog 117 #[.int .u8 g, .int .i64 r] w fun e w' => e = .returned (.bool (fitS g r)) ∧ w = w' := by
  unfold fitS
  go_enter Try.func117, Try.ntmps117
  go_wp2_with fail
  refine (alike_any _ _).mono ?_
  rintro e w' ⟨rfl, rfl⟩
  go_wp2
  go_ret
  exact ⟨rfl, rfl⟩

/-- What 'take' hands back. -/
def three (a b c : IntKind) (r : Int × Int × Int) : Ending := .returned (.tuple #[.int a r.1, .int b r.2.1, .int c r.2.2])

set_option maxHeartbeats 1000000 in
theorem take_any (F : Nat) (hFF : F = 111 ∨ F = 117) (fit : Int → Int → Bool) (A : Option Addr) (l : List Int) (n c : Nat) (bits : Int) (w : World) (h : Rd w w.heap.size A l) (hn : n = l.length) (hl : n ≤ maxLen) (hb : 1 ≤ bits) (hb2 : bits ≤ 64)
    (hF : ∀ g r, 0 ≤ g → g < 128 → 1 ≤ r → r ≤ 7 → Calls Try.prog F #[.int .u8 g, .int .i64 r] w fun e w' => e = .returned (.bool (fit g r)) ∧ w = w') :
    Calls Try.prog 110 #[.slice A n c, .int .i64 bits, .func (.func F) #[] #[]] w fun e w' => e = three .u64 .i64 .i64 (dec bits fit l 0 0) ∧ w = w' := by
  rcases hFF with rfl | rfl
  all_goals
    have HN := Lib.hid hn
    clear hn
    have HH := Lib.hid hF
    clear hF
    have HR := Lib.hid h
    clear h
    unfold maxLen at hl
    go_enter Try.func110, Try.ntmps110
    go_wp2
    go_loop [6, 15] (fun v i => ∃ (x : Int) (k : Nat), k ≤ n ∧ 7 * k < bits ∧ 0 ≤ x ∧ x < 2 ^ (k * 7) ∧ Hid (dec bits fit l 0 0 = dec bits fit (l.drop k) k x) ∧ i = .int .i64 k ∧ v = .int .u64 x) (fun _ i => n - (intOf i).toNat)
    case atStart => exact ⟨0, 0, Nat.zero_le _, by omega, by omega, by simp, rfl, rfl, rfl⟩
    case round =>
      obtain ⟨x, k, hk, hk7, hx0, hx1, HD, rfl, rfl⟩ := hrel
      by_cases hlt : k < n
      · have hlt' : k < l.length := by rw [← HN.out]; exact hlt
        obtain ⟨⟨b, o, sp⟩, rfl, hbl, hc⟩ := HR.out.2 k hlt'
        obtain ⟨hc0, hc1⟩ := HR.out.byte hlt'
        have HS := Lib.hid (dec_drop bits fit l k x hlt')
        generalize l.getD k 0 = cc at *
        have ha := and128 cc hc0 hc1
        have HA := Lib.hid (acc_eq x cc k hx0 hx1 (by omega) hc0 hc1)
        have HP := Lib.hid hx1
        clear hx1
        by_cases h7 : bits - k * 7 ≤ 7
        · by_cases h128 : 128 ≤ cc
          · have hres : dec bits fit l 0 0 = (0, 0, 2) := by rw [HD.out, HS.out, if_pos ⟨h7, .inl h128⟩]
            have HQ := Lib.hid hres
            clear hres
            go_wp2
            go_ret3
            exact ⟨by rw [HQ.out]; rfl, rfl⟩
          · by_cases hf : fit (cc % 128) (bits - k * 7) = true
            · have hres : dec bits fit l 0 0 = ((x + cc % 128 * 2 ^ (k * 7)) % 18446744073709551616, (k : Int) + 1, 0) := by
                rw [HD.out, HS.out, if_neg (by simp [hf]; omega), if_pos (by omega)]
              have HQ := Lib.hid hres
              clear hres
              go_wp2_with fail
              refine (HH.out _ _ (by omega) (by omega) (by omega) (by omega)).mono ?_
              rintro e w' ⟨rfl, rfl⟩
              go_wp2
              go_ret3
              refine ⟨?_, rfl⟩
              rw [HQ.out]
              unfold three
              rw [← HA.out]
              rfl
            · have hf' : fit (cc % 128) (bits - k * 7) = false := by simpa using hf
              have hres : dec bits fit l 0 0 = (0, 0, 2) := by rw [HD.out, HS.out, if_pos ⟨h7, .inr hf'⟩]
              have HQ := Lib.hid hres
              clear hres hf
              go_wp2_with fail
              refine (HH.out _ _ (by omega) (by omega) (by omega) (by omega)).mono ?_
              rintro e w' ⟨rfl, rfl⟩
              go_wp2
              go_ret3
              exact ⟨by rw [HQ.out]; rfl, rfl⟩
        · have hbd := acc_bd x cc k hx0 HP.out (by omega) hc0 hc1
          have HB := Lib.hid hbd
          clear hbd
          by_cases h128 : cc < 128
          · have hres : dec bits fit l 0 0 = ((x + cc % 128 * 2 ^ (k * 7)) % 18446744073709551616, (k : Int) + 1, 0) := by
              rw [HD.out, HS.out, if_neg (by omega), if_pos h128]
            have HQ := Lib.hid hres
            clear hres
            go_wp2
            go_ret3
            refine ⟨?_, rfl⟩
            rw [HQ.out]
            unfold three
            rw [← HA.out]
            rfl
          · have hres : dec bits fit l 0 0 = dec bits fit (l.drop (k + 1)) (k + 1) ((x + cc % 128 * 2 ^ (k * 7)) % 18446744073709551616) := by
              rw [HD.out, HS.out, if_neg (by omega), if_neg h128]
            have HQ := Lib.hid hres
            clear hres
            go_wp2
            rw [HA.out]
            refine ⟨⟨_, k + 1, by omega, by omega, HB.out.1, HB.out.2, HQ, by go_num, rfl⟩, ?_⟩
            simp [intOf]; omega
      · have hres : dec bits fit l 0 0 = (0, 0, 3) := by
          rw [HD.out, List.drop_of_length_le (by rw [← HN.out]; omega)]; rfl
        have HQ := Lib.hid hres
        clear hres
        go_wp2
        go_ret3
        exact ⟨by rw [HQ.out]; rfl, rfl⟩
end Go.Proofs.Ytdbbcbffmbcjiaa

/- slices.Grow and slices.Concat at bytes, of two slices. -/
namespace Go.Proofs.Ytdbbcbffmbcjiaa
open Go.RowKit
set_option maxRecDepth 100000
set_option linter.unusedVariables false

theorem zeroCells_size (z : Value) (n : Nat) (hz : z.cells = #[z]) : (Builtin.zeroCells z.cells n).size = n := by
  simp [Builtin.zeroCells, hz]

theorem grow_any (n : Nat) (w : World) (hn : n ≤ 1000000000) :
    Calls Try.prog 118 #[.slice none 0 0, .int .i64 n] w fun e w' => ∃ v, e = .returned v ∧ OwnB w' w.heap.size v [] ∧ Below w.heap.size w w' := by
  by_cases h0 : n = 0
  · subst h0
    go_enter Try.func118, Try.ntmps118
    go_wp2
    go_ret
    exact ⟨_, rfl, OwnB.nil _ _, Below.refl _ _⟩
  · obtain ⟨i, hi, hz, hs, hb⟩ := info_parts byte_info
    have hr := Lib.run_append_nil_zeros (P := Try.prog) w 22 3 22 5 i _ .i64 .i64 under_bytes Try.underlying3 hi hz n (by omega) (by omega) (by omega) (by rw [hb]; omega)
    have HR := Lib.hid hr
    clear hr
    have hc1 := grownCap_ge w n 0 5
    have hc2 := grownCap_le_maxLen w n 0 5 (by simp only [maxLen]; omega)
    have HB : Hid (Below w.heap.size w (w.drew.alloc (.cells (Builtin.zeroCells (Value.int .u8 0).cells n ++ Builtin.zeroCells (Value.int .u8 0).cells (grownCap w n 0 5 - n)) 5))) :=
      (Below.refl _ _).drew.alloc (Nat.le_refl _) _
    have HO : Hid (∀ c, c = grownCap w n 0 5 → OwnB (w.drew.alloc (.cells (Builtin.zeroCells (Value.int .u8 0).cells n ++ Builtin.zeroCells (Value.int .u8 0).cells (grownCap w n 0 5 - n)) 5)) w.heap.size (.slice (some ⟨w.heap.size, 0, none⟩) 0 c) []) := by
      rintro c rfl
      refine ⟨by simp, .inr ⟨w.heap.size, _, _, rfl, Nat.le_refl _, heap_alloc_new w.drew _, by simp, hc2, ?_, by simp⟩⟩
      simp [zeroCells_size (Value.int .u8 0) _ rfl]
      omega
    generalize grownCap w n 0 5 = gc at *
    generalize Builtin.zeroCells (Value.int .u8 0).cells n ++ Builtin.zeroCells (Value.int .u8 0).cells (gc - n) = gz at *
    have hp : (0 : Int) < (n : Int) := by omega
    go_enter Try.func118, Try.ntmps118
    go_wp2_with (at_builtin; refine Lib.wpList_append_run _ rfl (.tmp 20) (.tmp 21) _ _ rfl _ _ rfl rfl _ _ HR.out ?_)
    go_ret
    exact ⟨_, rfl, HO.out _ rfl, HB.out⟩

set_option maxHeartbeats 2000000 in
theorem concat_any (g : Nat) (A1 A2 : Option Addr) (l1 l2 : List Int) (n1 n2 c1 c2 : Nat) (w : World) (h1 : Rd w w.heap.size A1 l1) (h2 : Rd w w.heap.size A2 l2) (hn1 : n1 = l1.length) (hn2 : n2 = l2.length)
    (hb1 : n1 ≤ 100000000) (hb2 : n2 ≤ 100000000) (hg : g < w.heap.size) (hc1 : w.cell? ⟨g, 0, none⟩ = some (.slice A1 n1 c1)) (hc2 : w.cell? ⟨g, 1, none⟩ = some (.slice A2 n2 c2)) :
    Calls Try.prog 116 #[.slice (some ⟨g, 0, none⟩) 2 2] w fun e w' => ∃ v, e = .returned v ∧ OwnB w' w.heap.size v (l1 ++ l2) ∧ Below w.heap.size w w' := by
  have H1 := Lib.hid h1
  have H2 := Lib.hid h2
  have HN1 := Lib.hid hn1
  have HN2 := Lib.hid hn2
  clear h1 h2 hn1 hn2
  go_enter Try.func116, Try.ntmps116
  go_wp2
  go_loop [3, 11] (fun s i => (i = .int .i64 0 ∧ s = .int .i64 0) ∨ (i = .int .i64 1 ∧ s = .int .i64 n1) ∨ (i = .int .i64 2 ∧ s = .int .i64 (n1 + n2))) (fun _ i => 2 - (intOf i).toNat)
  case atStart => exact .inl ⟨rfl, rfl⟩
  case round =>
    rcases hrel with ⟨rfl, rfl⟩ | ⟨rfl, rfl⟩ | ⟨rfl, rfl⟩
    · go_wp2
      exact ⟨.inr (.inl ⟨rfl, rfl⟩), by simp [intOf]⟩
    · go_wp2
      exact ⟨.inr (.inr ⟨rfl, rfl⟩), by simp [intOf]⟩
    · go_wp2_with fail
      rw [show ((n1 : Int) + (n2 : Int)) = ((n1 + n2 : Nat) : Int) from by omega]
      refine (grow_any (n1 + n2) w (by omega)).mono ?_
      rintro e w' ⟨v, rfl, ho, hbl⟩
      have HO := Lib.hid ho
      have HB := Lib.hid hbl
      clear ho hbl
      go_wp2
      go_loopw [6, 27] (fun u i wr => ∃ (l : List Int), Hid (OwnB wr w.heap.size u l ∧ Below w.heap.size w wr) ∧ ((i = .int .i64 0 ∧ l = []) ∨ (i = .int .i64 1 ∧ l = l1) ∨ (i = .int .i64 2 ∧ l = l1 ++ l2))) (fun _ i _ => 2 - (intOf i).toNat)
      case atStart => exact ⟨[], ⟨HO.out, HB.out⟩, .inl ⟨rfl, rfl⟩⟩
      case round =>
        obtain ⟨l, HX, hrel⟩ := hrel
        have hd1 : wr.cell? ⟨g, 0, none⟩ = some (.slice A1 n1 c1) := (HX.out.2.cell (p := ⟨g, 0, none⟩) hg).trans hc1
        have hd2 : wr.cell? ⟨g, 1, none⟩ = some (.slice A2 n2 c2) := (HX.out.2.cell (p := ⟨g, 1, none⟩) hg).trans hc2
        clear hc1 hc2 HO HB
        rcases hrel with ⟨rfl, rfl⟩ | ⟨rfl, rfl⟩ | ⟨rfl, rfl⟩
        · go_wp2_with (at_builtin; refine wpList_app rfl (.tmp 31) (.tmp 32) rfl w.heap.size u6 [] rfl HX.out.1 A1 n1 c1 l1 rfl HN1.out (H1.out.later HX.out.2) (by simp; omega) HX.out.2.size ?_; intro v1 w1 hv1 hw1; have HV := Lib.hid (And.intro hv1 hw1); clear hv1 hw1)
          go_wp2
          exact ⟨⟨l1, ⟨by simpa using HV.out.1, HX.out.2.trans HV.out.2⟩, .inr (.inl ⟨rfl, rfl⟩)⟩, by simp [intOf]⟩
        · go_wp2_with (at_builtin; refine wpList_app rfl (.tmp 31) (.tmp 32) rfl w.heap.size u6 _ rfl HX.out.1 A2 n2 c2 l2 rfl HN2.out (H2.out.later HX.out.2) (by rw [← HN1.out]; omega) HX.out.2.size ?_; intro v1 w1 hv1 hw1; have HV := Lib.hid (And.intro hv1 hw1); clear hv1 hw1)
          go_wp2
          exact ⟨⟨_, ⟨HV.out.1, HX.out.2.trans HV.out.2⟩, .inr (.inr ⟨rfl, rfl⟩)⟩, by simp [intOf]⟩
        · go_wp2
          go_ret
          exact ⟨_, rfl, HX.out⟩

end Go.Proofs.Ytdbbcbffmbcjiaa

/- leb.put: two slices laid one behind the other. -/
namespace Go.Proofs.Ytdbbcbffmbcjiaa
open Go.RowKit
set_option maxRecDepth 100000
set_option linter.unusedVariables false

theorem put_any (A1 A2 : Option Addr) (l1 l2 : List Int) (n1 n2 c1 c2 : Nat) (w : World) (h1 : Rd w w.heap.size A1 l1) (h2 : Rd w w.heap.size A2 l2) (hn1 : n1 = l1.length) (hn2 : n2 = l2.length)
    (hb1 : n1 ≤ 100000000) (hb2 : n2 ≤ 100000000) :
    Calls Try.prog 109 #[.slice A1 n1 c1, .slice A2 n2 c2] w fun e w' => ∃ v, e = .returned v ∧ OwnB w' w.heap.size v (l1 ++ l2) ∧ Below w.heap.size w w' := by
  have H1 := Lib.hid h1
  have H2 := Lib.hid h2
  have HN1 := Lib.hid hn1
  have HN2 := Lib.hid hn2
  clear h1 h2 hn1 hn2
  go_enter Try.func109, Try.ntmps109
  go_wp2_with fail
  have hbl : Below w.heap.size w (w.alloc (.cells #[.slice A1 n1 c1, .slice A2 n2 c2] 22)) := (Below.refl _ _).alloc (Nat.le_refl _) _
  have hr := concat_any w.heap.size A1 A2 l1 l2 n1 n2 c1 c2 (w.alloc (.cells #[.slice A1 n1 c1, .slice A2 n2 c2] 22)) (H1.out.later hbl) (H2.out.later hbl) HN1.out HN2.out hb1 hb2 (by simp)
    (by rw [cell_of_row _ _ _ _ _ _ (heap_alloc_new w _)]; rfl) (by rw [cell_of_row _ _ _ _ _ _ (heap_alloc_new w _)]; rfl)
  refine hr.mono ?_
  rintro e w' ⟨v, rfl, ho, hb⟩
  have HO := Lib.hid (And.intro (ho.base (base' := w.heap.size) (by simp)) (hbl.trans (hb.mono (B' := w.heap.size) (by simp))))
  clear hr ho hb hbl
  go_wp2
  go_ret
  exact ⟨_, rfl, HO.out⟩
end Go.Proofs.Ytdbbcbffmbcjiaa
