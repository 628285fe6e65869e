/- Plain mathematics of numbers in groups of seven bits: no Go text. What reading gives, what writing gives, and that what is written is read. -/
import Derived.Laws.BitsAllLaws
import Derived.Laws.BitsLemmas
import Derived.Laws.Bits64
import Derived.Below
namespace Go.Proofs.Ytfmncljcogijhaa
open Go.RowKit
set_option maxRecDepth 100000
set_option linter.unusedVariables false

/-- Reading at the front of a list of bytes, from group k on, x read so far: the number, how many bytes, the error. -/
def dec (bits : Int) (fit : Int → Int → Bool) : List Int → Nat → Int → Int × Int × Int
  | [], _, _ => (0, 0, 3)
  | c :: l, k, x =>
    if bits - (k : Int) * 7 ≤ 7 ∧ (128 ≤ c ∨ fit (c % 128) (bits - (k : Int) * 7) = false) then (0, 0, 2)
    else if c < 128 then ((x + c % 128 * 2 ^ (k * 7)) % 18446744073709551616, (k : Int) + 1, 0)
    else dec bits fit l (k + 1) ((x + c % 128 * 2 ^ (k * 7)) % 18446744073709551616)

def fitU (g r : Int) : Bool := g / 2 ^ r.toNat == 0
def fitS (g r : Int) : Bool :=
  let v := wrap64 (IntKind.i8.wrap (g * 2) / 2 ^ r.toNat)
  v == 0 || v == -1

/-- The sign carried on from n groups. -/
def sx (u n : Int) : Int := wrap64 (IntKind.u64.wrap (u * 2 ^ (max 0 (64 - n * 7)).toNat)) / 2 ^ (max 0 (64 - n * 7)).toNat

def rdU (bits : Int) (l : List Int) : Int × Int × Int := dec bits fitU l 0 0
def rdS (bits : Int) (l : List Int) : Int × Int × Int :=
  if (dec bits fitS l 0 0).2.2 = 0 then (sx (dec bits fitS l 0 0).1 (dec bits fitS l 0 0).2.1, (dec bits fitS l 0 0).2.1, 0) else (0, 0, (dec bits fitS l 0 0).2.2)

theorem and128 (c : Int) (h0 : 0 ≤ c) (h1 : c ≤ 255) : Go.bits .andNot .u8 c 128 = c % 128 := by
  rw [u8_andNot c 128 h0 (by omega) (by omega) (by omega), show (255 - (128 : Int).toNat) = 127 from rfl, nat_mask7]
  omega

theorem pow7 (k : Nat) (hk : k ≤ 9) : (2 : Int) ^ (k * 7) = 1 ∨ (2 : Int) ^ (k * 7) = 128 ∨ (2 : Int) ^ (k * 7) = 16384 ∨ (2 : Int) ^ (k * 7) = 2097152 ∨ (2 : Int) ^ (k * 7) = 268435456 ∨ (2 : Int) ^ (k * 7) = 34359738368 ∨ (2 : Int) ^ (k * 7) = 4398046511104 ∨ (2 : Int) ^ (k * 7) = 562949953421312 ∨ (2 : Int) ^ (k * 7) = 72057594037927936 ∨ (2 : Int) ^ (k * 7) = 9223372036854775808 := by
  match k, hk with
  | 0, _ => simp
  | 1, _ => simp
  | 2, _ => simp
  | 3, _ => simp
  | 4, _ => simp
  | 5, _ => simp
  | 6, _ => simp
  | 7, _ => simp
  | 8, _ => simp
  | 9, _ => simp
  | n + 10, h => omega

theorem or_nat (x g k : Nat) (hx : x < 2 ^ (k * 7)) (hk : k ≤ 9) (hg : g < 128) :
    (x ||| (g * 2 ^ (k * 7)) % 18446744073709551616) = (x + g * 2 ^ (k * 7)) % 18446744073709551616 := by
  have hm : (g * 2 ^ (k * 7)) % 18446744073709551616 % 2 ^ (k * 7) = 0 := by
    have hd : (2 : Nat) ^ (k * 7) ∣ 18446744073709551616 := by
      rw [show (18446744073709551616 : Nat) = 2 ^ 64 from rfl]
      exact Nat.pow_dvd_pow 2 (by omega)
    rw [Nat.mod_mod_of_dvd _ hd, Nat.mul_mod_left]
  rw [Nat.or_comm, nat_join (k * 7) _ x hm hx]
  have hp : (2 : Nat) ^ (k * 7) ≤ 2 ^ 63 := Nat.pow_le_pow_right (by omega) (by omega)
  have hlt : (g * 2 ^ (k * 7)) % 18446744073709551616 + x < 18446744073709551616 := by
    have hq : (g * 2 ^ (k * 7)) % 18446744073709551616 = 2 ^ (k * 7) * (g % 2 ^ (64 - k * 7)) := by
      rw [show (18446744073709551616 : Nat) = 2 ^ (k * 7) * 2 ^ (64 - k * 7) from by rw [← Nat.pow_add, show k * 7 + (64 - k * 7) = 64 from by omega], Nat.mul_comm g, Nat.mul_mod_mul_left]
    have hr : g % 2 ^ (64 - k * 7) < 2 ^ (64 - k * 7) := Nat.mod_lt _ (Nat.two_pow_pos _)
    have : 2 ^ (k * 7) * (g % 2 ^ (64 - k * 7)) + 2 ^ (k * 7) ≤ 2 ^ (k * 7) * 2 ^ (64 - k * 7) := by
      rw [← Nat.mul_succ]; exact Nat.mul_le_mul_left _ hr
    rw [← Nat.pow_add, show k * 7 + (64 - k * 7) = 64 from by omega] at this
    rw [hq]; omega
  omega

/-- One group more. -/
theorem acc_eq (x c : Int) (k : Nat) (h0 : 0 ≤ x) (hx : x < 2 ^ (k * 7)) (hk : k ≤ 9) (h1 : 0 ≤ c) (h2 : c ≤ 255) :
    Go.bits .or .u64 x (IntKind.u64.wrap (c % 128 * 2 ^ (k * 7))) = (x + c % 128 * 2 ^ (k * 7)) % 18446744073709551616 := by
  rw [IntKind.wrap_u64]
  obtain ⟨g, hg⟩ : ∃ g : Nat, c % 128 = g := ⟨(c % 128).toNat, by omega⟩
  obtain ⟨y, rfl⟩ : ∃ y : Nat, x = y := ⟨x.toNat, by omega⟩
  rw [hg]
  have hy : y < 2 ^ (k * 7) := by
    have := hx
    rw [show (2 : Int) ^ (k * 7) = ((2 ^ (k * 7) : Nat) : Int) from by simp] at this
    omega
  have hp : (2 : Nat) ^ (k * 7) ≤ 2 ^ 63 := Nat.pow_le_pow_right (by omega) (by omega)
  have hpe : ((g : Int) * 2 ^ (k * 7)) % 18446744073709551616 = ((g * 2 ^ (k * 7) % 18446744073709551616 : Nat) : Int) := by simp
  rw [hpe, u64_or_nat _ _ (by omega) (by omega), or_nat y g k hy hk (by omega)]
  simp

theorem acc_bd (x c : Int) (k : Nat) (h0 : 0 ≤ x) (hx : x < 2 ^ (k * 7)) (hk : k + 1 ≤ 9) (h1 : 0 ≤ c) (h2 : c ≤ 255) :
    0 ≤ (x + c % 128 * 2 ^ (k * 7)) % 18446744073709551616 ∧ (x + c % 128 * 2 ^ (k * 7)) % 18446744073709551616 < 2 ^ ((k + 1) * 7) := by
  have e : (2 : Int) ^ ((k + 1) * 7) = 2 ^ (k * 7) * 128 := by rw [show (k + 1) * 7 = k * 7 + 7 from by omega, Int.pow_add]; rfl
  have hc : c % 128 ≤ 127 := by omega
  have hc0 : 0 ≤ c % 128 := by omega
  rw [e]
  rcases pow7 k (by omega) with h | h | h | h | h | h | h | h | h | h <;> rw [h] at hx ⊢ <;> omega

/-- One step of reading. -/
theorem dec_drop (bits : Int) (fit : Int → Int → Bool) (l : List Int) (k : Nat) (x : Int) (h : k < l.length) :
    dec bits fit (l.drop k) k x =
      if bits - (k : Int) * 7 ≤ 7 ∧ (128 ≤ l.getD k 0 ∨ fit (l.getD k 0 % 128) (bits - (k : Int) * 7) = false) then (0, 0, 2)
      else if l.getD k 0 < 128 then ((x + l.getD k 0 % 128 * 2 ^ (k * 7)) % 18446744073709551616, (k : Int) + 1, 0)
      else dec bits fit (l.drop (k + 1)) (k + 1) ((x + l.getD k 0 % 128 * 2 ^ (k * 7)) % 18446744073709551616) := by
  rw [List.drop_eq_getElem_cons h]
  simp only [dec, List.getD_eq_getElem?_getD, List.getElem?_eq_getElem h, Option.getD_some]

/-- What reading may come to. -/
theorem dec_cases (bits : Int) (fit : Int → Int → Bool) (hb : bits ≤ 64) (l : List Int) : ∀ (k : Nat) (x : Int), 7 * (k : Int) < bits →
    dec bits fit l k x = (0, 0, 3) ∨ dec bits fit l k x = (0, 0, 2) ∨
      ∃ (u : Int) (m : Nat), dec bits fit l k x = (u, (m : Int), 0) ∧ 0 ≤ u ∧ u < 18446744073709551616 ∧ 1 ≤ m ∧ 7 * (m : Int) < bits + 7 ∧ m ≤ k + l.length := by
  induction l with
  | nil => intro k x _; left; rfl
  | cons c l ih =>
    intro k x hk
    simp only [dec]
    split
    · right; left; rfl
    · split
      · right; right
        exact ⟨(x + c % 128 * 2 ^ (k * 7)) % 18446744073709551616, k + 1, rfl, by omega, by omega, by omega, by omega, by simp⟩
      · rcases ih (k + 1) ((x + c % 128 * 2 ^ (k * 7)) % 18446744073709551616) (by omega) with h | h | ⟨u, m, h, h1, h2, h3, h4, h5⟩
        · exact .inl h
        · exact .inr (.inl h)
        · exact .inr (.inr ⟨u, m, h, h1, h2, h3, h4, by simp; omega⟩)

theorem sx_lt (u : Int) (m : Nat) (h : (m : Int) * 7 < 64) : sx u m = wrap64 (IntKind.u64.wrap (u * 2 ^ (64 - (m : Int) * 7).toNat)) / 2 ^ (64 - (m : Int) * 7).toNat := by
  unfold sx; rw [show max 0 (64 - (m : Int) * 7) = 64 - (m : Int) * 7 from by omega]
theorem sx_ge (u : Int) (m : Nat) (h : 64 ≤ (m : Int) * 7) : sx u m = wrap64 (IntKind.u64.wrap u) := by
  unfold sx; rw [show max 0 (64 - (m : Int) * 7) = 0 from by omega]; simp

/-- The sign by the last group. -/
theorem sx_last (x c : Int) (k : Nat) (h0 : 0 ≤ x) (hx : x < 2 ^ (k * 7)) (hk : k ≤ 8) (h1 : 0 ≤ c) (h2 : c < 128) :
    sx ((x + c % 128 * 2 ^ (k * 7)) % 18446744073709551616) ((k : Int) + 1) = if c < 64 then x + c * 2 ^ (k * 7) else x + c * 2 ^ (k * 7) - 128 * 2 ^ (k * 7) := by
  have e := sx_lt ((x + c % 128 * 2 ^ (k * 7)) % 18446744073709551616) (k + 1) (by omega)
  rw [show ((k + 1 : Nat) : Int) = (k : Int) + 1 from by omega] at e
  rw [e, IntKind.wrap_u64]
  unfold wrap64
  match k, hk with
  | 0, _ => simp at hx ⊢; split <;> omega
  | 1, _ => simp at hx ⊢; split <;> omega
  | 2, _ => simp at hx ⊢; split <;> omega
  | 3, _ => simp at hx ⊢; split <;> omega
  | 4, _ => simp at hx ⊢; split <;> omega
  | 5, _ => simp at hx ⊢; split <;> omega
  | 6, _ => simp at hx ⊢; split <;> omega
  | 7, _ => simp at hx ⊢; split <;> omega
  | 8, _ => simp at hx ⊢; split <;> omega
  | n + 9, h => omega

theorem signed_or (x c : Int) (k : Nat) (h0 : 0 ≤ x) (hx : x < 2 ^ (k * 7)) (hk : k ≤ 8) (h1 : 64 ≤ c) (h2 : c < 128) :
    Go.bits .or .u64 ((x + c % 128 * 2 ^ (k * 7)) % 18446744073709551616) (IntKind.u64.wrap (18446744073709551615 * 2 ^ (k * 7 + 7))) = sx ((x + c % 128 * 2 ^ (k * 7)) % 18446744073709551616) ((k : Int) + 1) % 18446744073709551616 := by
  rw [sx_last x c k h0 hx hk (by omega) h2, if_neg (by omega), IntKind.wrap_u64]
  have hu : 0 ≤ x + c * 2 ^ (k * 7) ∧ x + c * 2 ^ (k * 7) < 2 ^ (k * 7 + 7) ∧ x + c * 2 ^ (k * 7) < 18446744073709551616 := by
    rw [Int.pow_add]
    rcases pow7 k (by omega) with h | h | h | h | h | h | h | h | h | h <;> rw [h] at hx ⊢ <;> (try (exfalso; match k, hk, h with | 0, _, h => simp at h | 1, _, h => simp at h | 2, _, h => simp at h | 3, _, h => simp at h | 4, _, h => simp at h | 5, _, h => simp at h | 6, _, h => simp at h | 7, _, h => simp at h | 8, _, h => simp at h)) <;> omega
  have hc : c % 128 = c := by omega
  rw [hc]
  obtain ⟨u, hu'⟩ : ∃ u : Nat, x + c * 2 ^ (k * 7) = u := ⟨(x + c * 2 ^ (k * 7)).toNat, by omega⟩
  rw [hu'] at hu ⊢
  have e1 : (u : Int) % 18446744073709551616 = ((u : Nat) : Int) := by omega
  have hpn : (2 : Nat) ^ (k * 7 + 7) ≤ 2 ^ 63 := Nat.pow_le_pow_right (by omega) (by omega)
  have hp1 : 1 ≤ (2 : Nat) ^ (k * 7 + 7) := Nat.two_pow_pos _
  have hulit : u < 2 ^ (k * 7 + 7) := by
    have := hu.2.1
    rw [show (2 : Int) ^ (k * 7 + 7) = ((2 ^ (k * 7 + 7) : Nat) : Int) from by simp] at this
    omega
  obtain ⟨N, hN⟩ : ∃ N : Nat, N + 2 ^ (k * 7 + 7) = 18446744073709551616 := ⟨_, Nat.sub_add_cancel (by omega)⟩
  have hd : (2 : Nat) ^ (k * 7 + 7) ∣ N := by
    have hd : (2 : Nat) ^ (k * 7 + 7) ∣ N + 2 ^ (k * 7 + 7) := by
      rw [hN, show (18446744073709551616 : Nat) = 2 ^ 64 from rfl]
      exact Nat.pow_dvd_pow 2 (by omega)
    exact (Nat.dvd_add_iff_left (Nat.dvd_refl _)).2 hd
  have e3 : (128 : Int) * 2 ^ (k * 7) = ((2 ^ (k * 7 + 7) : Nat) : Int) := by
    rw [Nat.pow_add]; simp; omega
  have e2 : (18446744073709551615 * 2 ^ (k * 7 + 7)) % 18446744073709551616 = ((N : Nat) : Int) := by
    rw [show (2 : Int) ^ (k * 7 + 7) = ((2 ^ (k * 7 + 7) : Nat) : Int) from by simp]
    omega
  have hjoin : N ||| u = N + u := nat_join (k * 7 + 7) N u (Nat.mod_eq_zero_of_dvd hd) hulit
  rw [e3, e1, e2]
  generalize (2 : Nat) ^ (k * 7 + 7) = p at *
  rw [u64_or_nat _ _ (by omega) (by omega), Nat.or_comm]
  have hj : N ||| u = N + u := hjoin
  rw [hj]
  omega

theorem fitS_eq (g r : Int) (h0 : 0 ≤ g) (h1 : g < 128) (h2 : 1 ≤ r) (h3 : r ≤ 7) :
    fitS g r = !(g / 2 ^ (r - 1).toNat != 0 && g / 2 ^ (r - 1).toNat != 127 / 2 ^ (r - 1).toNat) := by
  obtain ⟨g, rfl⟩ : ∃ n : Nat, g = n := ⟨g.toNat, by omega⟩
  obtain ⟨r, rfl⟩ : ∃ n : Nat, r = n := ⟨r.toNat, by omega⟩
  have key : ∀ a : Fin 128, ∀ b : Fin 8, 1 ≤ b.val → fitS (a.val : Int) (b.val : Int) = !((a.val : Int) / 2 ^ ((b.val : Int) - 1).toNat != 0 && (a.val : Int) / 2 ^ ((b.val : Int) - 1).toNat != 127 / 2 ^ ((b.val : Int) - 1).toNat) := by decide +kernel
  exact key ⟨g, by omega⟩ ⟨r, by omega⟩ (by simp; omega)

/-! ### What is read behind what is written -/
/-- The bytes of groups: all but the last say that there is more. -/
def bytesOf : List Int → List Int
  | [] => []
  | [g] => [g]
  | g :: h :: gs => (g + 128) :: bytesOf (h :: gs)
def val : List Int → Int
  | [] => 0
  | g :: gs => g + 128 * val gs

theorem bytesOf_length (gs : List Int) : (bytesOf gs).length = gs.length := by
  induction gs with
  | nil => rfl
  | cons g gs ih =>
    cases gs with
    | nil => rfl
    | cons h gs => simpa [bytesOf] using ih

def Groups (gs : List Int) : Prop := ∀ g ∈ gs, 0 ≤ g ∧ g < 128

theorem val_bd (gs : List Int) (h : Groups gs) : 0 ≤ val gs ∧ val gs < 128 ^ gs.length := by
  induction gs with
  | nil => simp [val]
  | cons g gs ih =>
    have hg := h g (by simp)
    have hi := ih (fun x hx => h x (by simp [hx]))
    simp only [val, List.length_cons, Int.pow_succ]
    omega

/-! ### What is written -/
/-- The groups of a number that is not below 0; n: one less than how many there may be. -/
def dgU : Nat → Int → List Int
  | 0, v => [v]
  | n + 1, v => if v < 128 then [v] else v % 128 :: dgU n (v / 128)
/-- The groups of a signed number. -/
def dgS : Nat → Int → List Int
  | 0, v => [v % 128]
  | n + 1, v => if -64 ≤ v ∧ v ≤ 63 then [v % 128] else v % 128 :: dgS n (v / 128)
def encU (v : Int) : List Int := bytesOf (dgU 9 v)
def encS (v : Int) : List Int := bytesOf (dgS 9 v)

theorem dgU_ne (n : Nat) (v : Int) : dgU n v ≠ [] := by cases n <;> simp [dgU]; split <;> simp
theorem dgS_ne (n : Nat) (v : Int) : dgS n v ≠ [] := by cases n <;> simp [dgS]; split <;> simp
theorem bytesOf_cons (g : Int) (gs : List Int) (h : gs ≠ []) : bytesOf (g :: gs) = (g + 128) :: bytesOf gs := by
  cases gs with
  | nil => exact absurd rfl h
  | cons a l => rfl
theorem bytesU_last (n : Nat) (v : Int) (h : v < 128) : bytesOf (dgU n v) = [v] := by
  cases n <;> simp [dgU, bytesOf, h]
theorem bytesU_more (n : Nat) (v : Int) (h : 128 ≤ v) : bytesOf (dgU (n + 1) v) = (v % 128 + 128) :: bytesOf (dgU n (v / 128)) := by
  rw [dgU, if_neg (by omega), bytesOf_cons _ _ (dgU_ne _ _)]
theorem bytesS_last (n : Nat) (v : Int) (h : -64 ≤ v ∧ v ≤ 63) : bytesOf (dgS n v) = [v % 128] := by
  cases n <;> simp [dgS, bytesOf, h]
theorem bytesS_more (n : Nat) (v : Int) (h : ¬ (-64 ≤ v ∧ v ≤ 63)) : bytesOf (dgS (n + 1) v) = (v % 128 + 128) :: bytesOf (dgS n (v / 128)) := by
  rw [dgS, if_neg h, bytesOf_cons _ _ (dgS_ne _ _)]
theorem or128 (c : Int) : Go.bits .or .u8 (c % 256) 128 = c % 128 + 128 := by
  obtain ⟨n, hn⟩ : ∃ n : Nat, c % 256 = n := ⟨(c % 256).toNat, by omega⟩
  rw [hn]
  have key : ∀ a : Fin 256, Go.bits .or .u8 (a.val : Int) 128 = (a.val : Int) % 128 + 128 := by decide +kernel
  have := key ⟨n, by omega⟩
  simp only at this
  rw [this]
  omega
theorem andn128 (c : Int) : Go.bits .andNot .u8 (c % 256) 128 = c % 128 := by
  rw [and128 _ (by omega) (by omega)]; omega
theorem dgU_len (n : Nat) (v : Int) : (dgU n v).length ≤ n + 1 := by
  induction n generalizing v with
  | zero => simp [dgU]
  | succ n ih => simp only [dgU]; split <;> simp; have := ih (v / 128); omega
theorem dgS_len (n : Nat) (v : Int) : (dgS n v).length ≤ n + 1 := by
  induction n generalizing v with
  | zero => simp [dgS]
  | succ n ih => simp only [dgS]; split <;> simp; have := ih (v / 128); omega
end Go.Proofs.Ytfmncljcogijhaa
