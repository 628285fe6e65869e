/- Texts joined: LebMath, LebMath2. -/
import Derived.Laws.BitsAllLaws
import Derived.Laws.BitsLemmas
import Derived.Laws.Bits64
import Derived.Below
/- Plain mathematics of numbers in groups of seven bits: no Go text. What reading gives, what writing gives, and that what is written is read. -/
namespace Go.Proofs.Ytdngkbagfaeplaa
open Go.RowKit
set_option maxRecDepth 100000
set_option linter.unusedVariables false

/-- Reading at the front of a list of bytes, from group k on, x read so far: the number, how many bytes, the error. -/
def dec (bits : Int) (fit : Int → Int → Bool) : List Int → Nat → Int → Int × Int × Int
  | [], _, _ => (0, 0, 3)
  | c :: l, k, x =>
    if bits - (k : Int) * 7 ≤ 7 ∧ (128 ≤ c ∨ fit (c % 128) (bits - (k : Int) * 7) = false) then (0, 0, 2)
    else if c < 128 then ((x + c % 128 * 2 ^ (k * 7)) % 18446744073709551616, (k : Int) + 1, 0)
    else dec bits fit l (k + 1) ((x + c % 128 * 2 ^ (k * 7)) % 18446744073709551616)

def fitU (g r : Int) : Bool := g / 2 ^ r.toNat == 0
def fitS (g r : Int) : Bool :=
  let v := wrap64 (IntKind.i8.wrap (g * 2) / 2 ^ r.toNat)
  v == 0 || v == -1

/-- The sign carried on from n groups. -/
def sx (u n : Int) : Int := wrap64 (IntKind.u64.wrap (u * 2 ^ (max 0 (64 - n * 7)).toNat)) / 2 ^ (max 0 (64 - n * 7)).toNat

def rdU (bits : Int) (l : List Int) : Int × Int × Int := dec bits fitU l 0 0
def rdS (bits : Int) (l : List Int) : Int × Int × Int :=
  if (dec bits fitS l 0 0).2.2 = 0 then (sx (dec bits fitS l 0 0).1 (dec bits fitS l 0 0).2.1, (dec bits fitS l 0 0).2.1, 0) else (0, 0, (dec bits fitS l 0 0).2.2)

theorem and128 (c : Int) (h0 : 0 ≤ c) (h1 : c ≤ 255) : Go.bits .andNot .u8 c 128 = c % 128 := by
  rw [u8_andNot c 128 h0 (by omega) (by omega) (by omega), show (255 - (128 : Int).toNat) = 127 from rfl, nat_mask7]
  omega

theorem pow7 (k : Nat) (hk : k ≤ 9) : (2 : Int) ^ (k * 7) = 1 ∨ (2 : Int) ^ (k * 7) = 128 ∨ (2 : Int) ^ (k * 7) = 16384 ∨ (2 : Int) ^ (k * 7) = 2097152 ∨ (2 : Int) ^ (k * 7) = 268435456 ∨ (2 : Int) ^ (k * 7) = 34359738368 ∨ (2 : Int) ^ (k * 7) = 4398046511104 ∨ (2 : Int) ^ (k * 7) = 562949953421312 ∨ (2 : Int) ^ (k * 7) = 72057594037927936 ∨ (2 : Int) ^ (k * 7) = 9223372036854775808 := by
  match k, hk with
  | 0, _ => simp
  | 1, _ => simp
  | 2, _ => simp
  | 3, _ => simp
  | 4, _ => simp
  | 5, _ => simp
  | 6, _ => simp
  | 7, _ => simp
  | 8, _ => simp
  | 9, _ => simp
  | n + 10, h => omega

theorem or_nat (x g k : Nat) (hx : x < 2 ^ (k * 7)) (hk : k ≤ 9) (hg : g < 128) :
    (x ||| (g * 2 ^ (k * 7)) % 18446744073709551616) = (x + g * 2 ^ (k * 7)) % 18446744073709551616 := by
  have hm : (g * 2 ^ (k * 7)) % 18446744073709551616 % 2 ^ (k * 7) = 0 := by
    have hd : (2 : Nat) ^ (k * 7) ∣ 18446744073709551616 := by
      rw [show (18446744073709551616 : Nat) = 2 ^ 64 from rfl]
      exact Nat.pow_dvd_pow 2 (by omega)
    rw [Nat.mod_mod_of_dvd _ hd, Nat.mul_mod_left]
  rw [Nat.or_comm, nat_join (k * 7) _ x hm hx]
  have hp : (2 : Nat) ^ (k * 7) ≤ 2 ^ 63 := Nat.pow_le_pow_right (by omega) (by omega)
  have hlt : (g * 2 ^ (k * 7)) % 18446744073709551616 + x < 18446744073709551616 := by
    have hq : (g * 2 ^ (k * 7)) % 18446744073709551616 = 2 ^ (k * 7) * (g % 2 ^ (64 - k * 7)) := by
      rw [show (18446744073709551616 : Nat) = 2 ^ (k * 7) * 2 ^ (64 - k * 7) from by rw [← Nat.pow_add, show k * 7 + (64 - k * 7) = 64 from by omega], Nat.mul_comm g, Nat.mul_mod_mul_left]
    have hr : g % 2 ^ (64 - k * 7) < 2 ^ (64 - k * 7) := Nat.mod_lt _ (Nat.two_pow_pos _)
    have : 2 ^ (k * 7) * (g % 2 ^ (64 - k * 7)) + 2 ^ (k * 7) ≤ 2 ^ (k * 7) * 2 ^ (64 - k * 7) := by
      rw [← Nat.mul_succ]; exact Nat.mul_le_mul_left _ hr
    rw [← Nat.pow_add, show k * 7 + (64 - k * 7) = 64 from by omega] at this
    rw [hq]; omega
  omega

/-- One group more. -/
theorem acc_eq (x c : Int) (k : Nat) (h0 : 0 ≤ x) (hx : x < 2 ^ (k * 7)) (hk : k ≤ 9) (h1 : 0 ≤ c) (h2 : c ≤ 255) :
    Go.bits .or .u64 x (IntKind.u64.wrap (c % 128 * 2 ^ (k * 7))) = (x + c % 128 * 2 ^ (k * 7)) % 18446744073709551616 := by
  rw [IntKind.wrap_u64]
  obtain ⟨g, hg⟩ : ∃ g : Nat, c % 128 = g := ⟨(c % 128).toNat, by omega⟩
  obtain ⟨y, rfl⟩ : ∃ y : Nat, x = y := ⟨x.toNat, by omega⟩
  rw [hg]
  have hy : y < 2 ^ (k * 7) := by
    have := hx
    rw [show (2 : Int) ^ (k * 7) = ((2 ^ (k * 7) : Nat) : Int) from by simp] at this
    omega
  have hp : (2 : Nat) ^ (k * 7) ≤ 2 ^ 63 := Nat.pow_le_pow_right (by omega) (by omega)
  have hpe : ((g : Int) * 2 ^ (k * 7)) % 18446744073709551616 = ((g * 2 ^ (k * 7) % 18446744073709551616 : Nat) : Int) := by simp
  rw [hpe, u64_or_nat _ _ (by omega) (by omega), or_nat y g k hy hk (by omega)]
  simp

theorem acc_bd (x c : Int) (k : Nat) (h0 : 0 ≤ x) (hx : x < 2 ^ (k * 7)) (hk : k + 1 ≤ 9) (h1 : 0 ≤ c) (h2 : c ≤ 255) :
    0 ≤ (x + c % 128 * 2 ^ (k * 7)) % 18446744073709551616 ∧ (x + c % 128 * 2 ^ (k * 7)) % 18446744073709551616 < 2 ^ ((k + 1) * 7) := by
  have e : (2 : Int) ^ ((k + 1) * 7) = 2 ^ (k * 7) * 128 := by rw [show (k + 1) * 7 = k * 7 + 7 from by omega, Int.pow_add]; rfl
  have hc : c % 128 ≤ 127 := by omega
  have hc0 : 0 ≤ c % 128 := by omega
  rw [e]
  rcases pow7 k (by omega) with h | h | h | h | h | h | h | h | h | h <;> rw [h] at hx ⊢ <;> omega

/-- One step of reading. -/
theorem dec_drop (bits : Int) (fit : Int → Int → Bool) (l : List Int) (k : Nat) (x : Int) (h : k < l.length) :
    dec bits fit (l.drop k) k x =
      if bits - (k : Int) * 7 ≤ 7 ∧ (128 ≤ l.getD k 0 ∨ fit (l.getD k 0 % 128) (bits - (k : Int) * 7) = false) then (0, 0, 2)
      else if l.getD k 0 < 128 then ((x + l.getD k 0 % 128 * 2 ^ (k * 7)) % 18446744073709551616, (k : Int) + 1, 0)
      else dec bits fit (l.drop (k + 1)) (k + 1) ((x + l.getD k 0 % 128 * 2 ^ (k * 7)) % 18446744073709551616) := by
  rw [List.drop_eq_getElem_cons h]
  simp only [dec, List.getD_eq_getElem?_getD, List.getElem?_eq_getElem h, Option.getD_some]

/-- What reading may come to. -/
theorem dec_cases (bits : Int) (fit : Int → Int → Bool) (hb : bits ≤ 64) (l : List Int) : ∀ (k : Nat) (x : Int), 7 * (k : Int) < bits →
    dec bits fit l k x = (0, 0, 3) ∨ dec bits fit l k x = (0, 0, 2) ∨
      ∃ (u : Int) (m : Nat), dec bits fit l k x = (u, (m : Int), 0) ∧ 0 ≤ u ∧ u < 18446744073709551616 ∧ 1 ≤ m ∧ 7 * (m : Int) < bits + 7 ∧ m ≤ k + l.length := by
  induction l with
  | nil => intro k x _; left; rfl
  | cons c l ih =>
    intro k x hk
    simp only [dec]
    split
    · right; left; rfl
    · split
      · right; right
        exact ⟨(x + c % 128 * 2 ^ (k * 7)) % 18446744073709551616, k + 1, rfl, by omega, by omega, by omega, by omega, by simp⟩
      · rcases ih (k + 1) ((x + c % 128 * 2 ^ (k * 7)) % 18446744073709551616) (by omega) with h | h | ⟨u, m, h, h1, h2, h3, h4, h5⟩
        · exact .inl h
        · exact .inr (.inl h)
        · exact .inr (.inr ⟨u, m, h, h1, h2, h3, h4, by simp; omega⟩)

theorem sx_lt (u : Int) (m : Nat) (h : (m : Int) * 7 < 64) : sx u m = wrap64 (IntKind.u64.wrap (u * 2 ^ (64 - (m : Int) * 7).toNat)) / 2 ^ (64 - (m : Int) * 7).toNat := by
  unfold sx; rw [show max 0 (64 - (m : Int) * 7) = 64 - (m : Int) * 7 from by omega]
theorem sx_ge (u : Int) (m : Nat) (h : 64 ≤ (m : Int) * 7) : sx u m = wrap64 (IntKind.u64.wrap u) := by
  unfold sx; rw [show max 0 (64 - (m : Int) * 7) = 0 from by omega]; simp

/-- The sign by the last group. -/
theorem sx_last (x c : Int) (k : Nat) (h0 : 0 ≤ x) (hx : x < 2 ^ (k * 7)) (hk : k ≤ 8) (h1 : 0 ≤ c) (h2 : c < 128) :
    sx ((x + c % 128 * 2 ^ (k * 7)) % 18446744073709551616) ((k : Int) + 1) = if c < 64 then x + c * 2 ^ (k * 7) else x + c * 2 ^ (k * 7) - 128 * 2 ^ (k * 7) := by
  have e := sx_lt ((x + c % 128 * 2 ^ (k * 7)) % 18446744073709551616) (k + 1) (by omega)
  rw [show ((k + 1 : Nat) : Int) = (k : Int) + 1 from by omega] at e
  rw [e, IntKind.wrap_u64]
  unfold wrap64
  match k, hk with
  | 0, _ => simp at hx ⊢; split <;> omega
  | 1, _ => simp at hx ⊢; split <;> omega
  | 2, _ => simp at hx ⊢; split <;> omega
  | 3, _ => simp at hx ⊢; split <;> omega
  | 4, _ => simp at hx ⊢; split <;> omega
  | 5, _ => simp at hx ⊢; split <;> omega
  | 6, _ => simp at hx ⊢; split <;> omega
  | 7, _ => simp at hx ⊢; split <;> omega
  | 8, _ => simp at hx ⊢; split <;> omega
  | n + 9, h => omega

theorem signed_or (x c : Int) (k : Nat) (h0 : 0 ≤ x) (hx : x < 2 ^ (k * 7)) (hk : k ≤ 8) (h1 : 64 ≤ c) (h2 : c < 128) :
    Go.bits .or .u64 ((x + c % 128 * 2 ^ (k * 7)) % 18446744073709551616) (IntKind.u64.wrap (18446744073709551615 * 2 ^ (k * 7 + 7))) = sx ((x + c % 128 * 2 ^ (k * 7)) % 18446744073709551616) ((k : Int) + 1) % 18446744073709551616 := by
  rw [sx_last x c k h0 hx hk (by omega) h2, if_neg (by omega), IntKind.wrap_u64]
  have hu : 0 ≤ x + c * 2 ^ (k * 7) ∧ x + c * 2 ^ (k * 7) < 2 ^ (k * 7 + 7) ∧ x + c * 2 ^ (k * 7) < 18446744073709551616 := by
    rw [Int.pow_add]
    rcases pow7 k (by omega) with h | h | h | h | h | h | h | h | h | h <;> rw [h] at hx ⊢ <;> (try (exfalso; match k, hk, h with | 0, _, h => simp at h | 1, _, h => simp at h | 2, _, h => simp at h | 3, _, h => simp at h | 4, _, h => simp at h | 5, _, h => simp at h | 6, _, h => simp at h | 7, _, h => simp at h | 8, _, h => simp at h)) <;> omega
  have hc : c % 128 = c := by omega
  rw [hc]
  obtain ⟨u, hu'⟩ : ∃ u : Nat, x + c * 2 ^ (k * 7) = u := ⟨(x + c * 2 ^ (k * 7)).toNat, by omega⟩
  rw [hu'] at hu ⊢
  have e1 : (u : Int) % 18446744073709551616 = ((u : Nat) : Int) := by omega
  have hpn : (2 : Nat) ^ (k * 7 + 7) ≤ 2 ^ 63 := Nat.pow_le_pow_right (by omega) (by omega)
  have hp1 : 1 ≤ (2 : Nat) ^ (k * 7 + 7) := Nat.two_pow_pos _
  have hulit : u < 2 ^ (k * 7 + 7) := by
    have := hu.2.1
    rw [show (2 : Int) ^ (k * 7 + 7) = ((2 ^ (k * 7 + 7) : Nat) : Int) from by simp] at this
    omega
  obtain ⟨N, hN⟩ : ∃ N : Nat, N + 2 ^ (k * 7 + 7) = 18446744073709551616 := ⟨_, Nat.sub_add_cancel (by omega)⟩
  have hd : (2 : Nat) ^ (k * 7 + 7) ∣ N := by
    have hd : (2 : Nat) ^ (k * 7 + 7) ∣ N + 2 ^ (k * 7 + 7) := by
      rw [hN, show (18446744073709551616 : Nat) = 2 ^ 64 from rfl]
      exact Nat.pow_dvd_pow 2 (by omega)
    exact (Nat.dvd_add_iff_left (Nat.dvd_refl _)).2 hd
  have e3 : (128 : Int) * 2 ^ (k * 7) = ((2 ^ (k * 7 + 7) : Nat) : Int) := by
    rw [Nat.pow_add]; simp; omega
  have e2 : (18446744073709551615 * 2 ^ (k * 7 + 7)) % 18446744073709551616 = ((N : Nat) : Int) := by
    rw [show (2 : Int) ^ (k * 7 + 7) = ((2 ^ (k * 7 + 7) : Nat) : Int) from by simp]
    omega
  have hjoin : N ||| u = N + u := nat_join (k * 7 + 7) N u (Nat.mod_eq_zero_of_dvd hd) hulit
  rw [e3, e1, e2]
  generalize (2 : Nat) ^ (k * 7 + 7) = p at *
  rw [u64_or_nat _ _ (by omega) (by omega), Nat.or_comm]
  have hj : N ||| u = N + u := hjoin
  rw [hj]
  omega

theorem fitS_eq (g r : Int) (h0 : 0 ≤ g) (h1 : g < 128) (h2 : 1 ≤ r) (h3 : r ≤ 7) :
    fitS g r = !(g / 2 ^ (r - 1).toNat != 0 && g / 2 ^ (r - 1).toNat != 127 / 2 ^ (r - 1).toNat) := by
  obtain ⟨g, rfl⟩ : ∃ n : Nat, g = n := ⟨g.toNat, by omega⟩
  obtain ⟨r, rfl⟩ : ∃ n : Nat, r = n := ⟨r.toNat, by omega⟩
  have key : ∀ a : Fin 128, ∀ b : Fin 8, 1 ≤ b.val → fitS (a.val : Int) (b.val : Int) = !((a.val : Int) / 2 ^ ((b.val : Int) - 1).toNat != 0 && (a.val : Int) / 2 ^ ((b.val : Int) - 1).toNat != 127 / 2 ^ ((b.val : Int) - 1).toNat) := by decide +kernel
  exact key ⟨g, by omega⟩ ⟨r, by omega⟩ (by simp; omega)

/-! ### What is read behind what is written -/
/-- The bytes of groups: all but the last say that there is more. -/
def bytesOf : List Int → List Int
  | [] => []
  | [g] => [g]
  | g :: h :: gs => (g + 128) :: bytesOf (h :: gs)
def val : List Int → Int
  | [] => 0
  | g :: gs => g + 128 * val gs

theorem bytesOf_length (gs : List Int) : (bytesOf gs).length = gs.length := by
  induction gs with
  | nil => rfl
  | cons g gs ih =>
    cases gs with
    | nil => rfl
    | cons h gs => simpa [bytesOf] using ih

def Groups (gs : List Int) : Prop := ∀ g ∈ gs, 0 ≤ g ∧ g < 128

theorem val_bd (gs : List Int) (h : Groups gs) : 0 ≤ val gs ∧ val gs < 128 ^ gs.length := by
  induction gs with
  | nil => simp [val]
  | cons g gs ih =>
    have hg := h g (by simp)
    have hi := ih (fun x hx => h x (by simp [hx]))
    simp only [val, List.length_cons, Int.pow_succ]
    omega

/-! ### What is written -/
/-- The groups of a number that is not below 0; n: one less than how many there may be. -/
def dgU : Nat → Int → List Int
  | 0, v => [v]
  | n + 1, v => if v < 128 then [v] else v % 128 :: dgU n (v / 128)
/-- The groups of a signed number. -/
def dgS : Nat → Int → List Int
  | 0, v => [v % 128]
  | n + 1, v => if -64 ≤ v ∧ v ≤ 63 then [v % 128] else v % 128 :: dgS n (v / 128)
def encU (v : Int) : List Int := bytesOf (dgU 9 v)
def encS (v : Int) : List Int := bytesOf (dgS 9 v)

theorem dgU_ne (n : Nat) (v : Int) : dgU n v ≠ [] := by cases n <;> simp [dgU]; split <;> simp
theorem dgS_ne (n : Nat) (v : Int) : dgS n v ≠ [] := by cases n <;> simp [dgS]; split <;> simp
theorem bytesOf_cons (g : Int) (gs : List Int) (h : gs ≠ []) : bytesOf (g :: gs) = (g + 128) :: bytesOf gs := by
  cases gs with
  | nil => exact absurd rfl h
  | cons a l => rfl
theorem bytesU_last (n : Nat) (v : Int) (h : v < 128) : bytesOf (dgU n v) = [v] := by
  cases n <;> simp [dgU, bytesOf, h]
theorem bytesU_more (n : Nat) (v : Int) (h : 128 ≤ v) : bytesOf (dgU (n + 1) v) = (v % 128 + 128) :: bytesOf (dgU n (v / 128)) := by
  rw [dgU, if_neg (by omega), bytesOf_cons _ _ (dgU_ne _ _)]
theorem bytesS_last (n : Nat) (v : Int) (h : -64 ≤ v ∧ v ≤ 63) : bytesOf (dgS n v) = [v % 128] := by
  cases n <;> simp [dgS, bytesOf, h]
theorem bytesS_more (n : Nat) (v : Int) (h : ¬ (-64 ≤ v ∧ v ≤ 63)) : bytesOf (dgS (n + 1) v) = (v % 128 + 128) :: bytesOf (dgS n (v / 128)) := by
  rw [dgS, if_neg h, bytesOf_cons _ _ (dgS_ne _ _)]
theorem or128 (c : Int) : Go.bits .or .u8 (c % 256) 128 = c % 128 + 128 := by
  obtain ⟨n, hn⟩ : ∃ n : Nat, c % 256 = n := ⟨(c % 256).toNat, by omega⟩
  rw [hn]
  have key : ∀ a : Fin 256, Go.bits .or .u8 (a.val : Int) 128 = (a.val : Int) % 128 + 128 := by decide +kernel
  have := key ⟨n, by omega⟩
  simp only at this
  rw [this]
  omega
theorem andn128 (c : Int) : Go.bits .andNot .u8 (c % 256) 128 = c % 128 := by
  rw [and128 _ (by omega) (by omega)]; omega
theorem dgU_len (n : Nat) (v : Int) : (dgU n v).length ≤ n + 1 := by
  induction n generalizing v with
  | zero => simp [dgU]
  | succ n ih => simp only [dgU]; split <;> simp; have := ih (v / 128); omega
theorem dgS_len (n : Nat) (v : Int) : (dgS n v).length ≤ n + 1 := by
  induction n generalizing v with
  | zero => simp [dgS]
  | succ n ih => simp only [dgS]; split <;> simp; have := ih (v / 128); omega
end Go.Proofs.Ytdngkbagfaeplaa

/- Plain mathematics: what is written is read, whole or cut, in so many bits. No Go text. -/
namespace Go.Proofs.Ytdngkbagfaeplaa
open Go.RowKit
set_option maxRecDepth 100000
set_option linter.unusedVariables false

theorem Groups.tail {g : Int} {gs : List Int} (h : Groups (g :: gs)) : Groups gs := fun x hx => h x (by simp [hx])

theorem pow8 (k : Nat) (hk : k ≤ 8) : (2 : Int) ^ (k * 7) = 1 ∨ (2 : Int) ^ (k * 7) = 128 ∨ (2 : Int) ^ (k * 7) = 16384 ∨ (2 : Int) ^ (k * 7) = 2097152 ∨ (2 : Int) ^ (k * 7) = 268435456 ∨ (2 : Int) ^ (k * 7) = 34359738368 ∨ (2 : Int) ^ (k * 7) = 4398046511104 ∨ (2 : Int) ^ (k * 7) = 562949953421312 ∨ (2 : Int) ^ (k * 7) = 72057594037927936 := by
  match k, hk with
  | 0, _ => simp
  | 1, _ => simp
  | 2, _ => simp
  | 3, _ => simp
  | 4, _ => simp
  | 5, _ => simp
  | 6, _ => simp
  | 7, _ => simp
  | 8, _ => simp
  | n + 9, h => omega

/-- Reading the bytes of groups. -/
theorem dec_bytes (bits : Int) (fit : Int → Int → Bool) (hb : bits ≤ 64) (more : List Int) (gs : List Int) (hne : gs ≠ []) (hG : Groups gs) : ∀ (k : Nat) (x : Int), 7 * (k : Int) < bits → 0 ≤ x → x < 2 ^ (k * 7) →
    dec bits fit (bytesOf gs ++ more) k x =
      if 7 * ((k : Int) + gs.length) < bits ∨ (7 * ((k : Int) + gs.length - 1) < bits ∧ fit (gs.getLast hne) (bits - ((k : Int) + gs.length - 1) * 7) = true) then ((x + val gs * 2 ^ (k * 7)) % 18446744073709551616, (k : Int) + gs.length, 0) else (0, 0, 2) := by
  induction gs with
  | nil => exact absurd rfl hne
  | cons g gs ih =>
    intro k x hk h0 h1
    have hg := hG g (by simp)
    cases gs with
    | nil =>
      have e : g % 128 = g := by omega
      simp only [bytesOf, List.cons_append, List.nil_append, dec, val, e, List.length_cons, List.length_nil, List.getLast_singleton, Int.mul_zero, Int.add_zero]
      rw [if_pos (show g < 128 by omega), show ((0 + 1 : Nat) : Int) = 1 from rfl, show (k : Int) + 1 - 1 = k from by omega]
      by_cases h7 : bits - (k : Int) * 7 ≤ 7
      · by_cases hf : fit g (bits - (k : Int) * 7) = true
        · rw [if_neg (by rintro ⟨_, h | h⟩; · omega
                         · simp [hf] at h), if_pos (.inr ⟨hk, hf⟩)]
        · rw [if_pos ⟨h7, .inr (by simpa using hf)⟩, if_neg]
          rintro (h | ⟨_, h⟩)
          · omega
          · exact hf h
      · rw [if_neg (by rintro ⟨h, _⟩; omega), if_pos (.inl (by omega))]
    | cons h t =>
      have e : (g + 128) % 128 = g := by omega
      rw [bytesOf_cons _ _ (by simp), List.cons_append]
      simp only [dec, e]
      have hl : ((g :: h :: t).length : Int) = ((h :: t).length : Int) + 1 := by simp
      have hl1 : 1 ≤ ((h :: t).length : Int) := by simp; omega
      by_cases h7 : bits - (k : Int) * 7 ≤ 7
      · rw [if_pos ⟨h7, .inl (by omega)⟩, if_neg]
        rw [hl]
        rintro (h | ⟨h, _⟩) <;> omega
      · rw [if_neg (by rintro ⟨h, _⟩; omega), if_neg (by omega)]
        have hb' := acc_bd x g k h0 h1 (by omega) (by omega) (by omega)
        have eg : g % 128 = g := by omega
        rw [eg] at hb'
        have hlt : x + g * 2 ^ (k * 7) < 18446744073709551616 ∧ 0 ≤ x + g * 2 ^ (k * 7) := by
          rcases pow8 k (by omega) with hp | hp | hp | hp | hp | hp | hp | hp | hp <;> rw [hp] at h1 ⊢ <;> omega
        have em : (x + g * 2 ^ (k * 7)) % 18446744073709551616 = x + g * 2 ^ (k * 7) := by omega
        rw [em] at hb' ⊢
        rw [ih (by simp) hG.tail (k + 1) (x + g * 2 ^ (k * 7)) (by omega) hb'.1 hb'.2]
        have ev : x + g * 2 ^ (k * 7) + val (h :: t) * 2 ^ ((k + 1) * 7) = x + val (g :: h :: t) * 2 ^ (k * 7) := by
          rw [show (k + 1) * 7 = k * 7 + 7 from by omega, Int.pow_add, show val (g :: h :: t) = g + 128 * val (h :: t) from rfl]
          generalize val (h :: t) = y
          generalize (2 : Int) ^ (k * 7) = p
          rw [Int.add_mul, show y * (p * 2 ^ 7) = 128 * y * p from by rw [show (2 : Int) ^ 7 = 128 from rfl, Int.mul_comm p 128, ← Int.mul_assoc, Int.mul_comm y 128]]
          omega
        rw [ev, hl, show (g :: h :: t).getLast hne = (h :: t).getLast (by simp) from List.getLast_cons _]
        have e1 : ((k + 1 : Nat) : Int) + ((h :: t).length : Int) = (k : Int) + (((h :: t).length : Int) + 1) := by omega
        rw [e1]

/-- Cut off, a number is short. -/
theorem dec_short (bits : Int) (fit : Int → Int → Bool) (l : List Int) (h : ∀ z ∈ l, 128 ≤ z) : ∀ (k : Nat) (x : Int), 7 * ((k : Int) + l.length) < bits → dec bits fit l k x = (0, 0, 3) := by
  induction l with
  | nil => intro k x _; rfl
  | cons c l ih =>
    intro k x hk
    have hc := h c (by simp)
    simp only [List.length_cons] at hk
    simp only [dec]
    rw [if_neg (by rintro ⟨h, _⟩; omega), if_neg (by omega)]
    exact ih (fun z hz => h z (by simp [hz])) (k + 1) _ (by omega)

theorem bytesOf_big (gs : List Int) (hG : Groups gs) : ∀ j, j < gs.length - 1 → ∀ z ∈ (bytesOf gs)[j]?, 128 ≤ z := by
  induction gs with
  | nil => intro j hj; simp at hj
  | cons g gs ih =>
    cases gs with
    | nil => intro j hj; simp at hj
    | cons h t =>
      intro j hj z hz
      rw [bytesOf_cons _ _ (by simp)] at hz
      cases j with
      | zero => simp at hz; subst hz; have := hG g (by simp); omega
      | succ j => exact ih hG.tail j (by simp at hj ⊢; omega) z (by simpa using hz)

theorem dec_cut (bits : Int) (fit : Int → Int → Bool) (gs : List Int) (hG : Groups gs) (j : Nat) (hj : j < gs.length) (hb : 7 * (j : Int) < bits) : dec bits fit ((bytesOf gs).take j) 0 0 = (0, 0, 3) := by
  refine dec_short bits fit _ (fun z hz => ?_) 0 0 ?_
  · obtain ⟨i, hi, rfl⟩ := List.getElem_of_mem hz
    have hi' : i < j := by simp at hi; omega
    exact bytesOf_big gs hG i (by omega) _ (by rw [List.getElem_take, List.getElem?_eq_getElem (by simp at hi; omega)]; simp)
  · simp; omega

/-! ### Unsigned -/
theorem dgU_spec (n : Nat) : ∀ v : Int, 0 ≤ v → v < 128 ^ (n + 1) → Groups (dgU n v) ∧ val (dgU n v) = v ∧ v < 128 ^ (dgU n v).length ∧ ((dgU n v).length = 1 ∨ 128 ^ ((dgU n v).length - 1) ≤ v) ∧ (dgU n v).getLast (dgU_ne n v) = v / 128 ^ ((dgU n v).length - 1) := by
  induction n with
  | zero =>
    intro v h0 h1
    simp at h1
    refine ⟨fun g hg => ?_, by simp [dgU, val], by simpa [dgU] using h1, .inl rfl, by simp [dgU]⟩
    simp [dgU] at hg; omega
  | succ n ih =>
    intro v h0 h1
    by_cases hv : v < 128
    · have e : dgU (n + 1) v = [v] := by simp [dgU, hv]
      simp only [e]
      refine ⟨fun g hg => ?_, by simp [val], by simpa using hv, .inl rfl, by simp⟩
      simp at hg; omega
    · have e : dgU (n + 1) v = v % 128 :: dgU n (v / 128) := by simp [dgU, hv]
      obtain ⟨i1, i2, i3, i4, i5⟩ := ih (v / 128) (by omega) (by rw [Int.pow_succ] at h1; omega)
      have hpos : 0 < (dgU n (v / 128)).length := List.length_pos_iff.2 (dgU_ne _ _)
      have hlen : (v % 128 :: dgU n (v / 128)).length - 1 = (dgU n (v / 128)).length - 1 + 1 := by simp; omega
      simp only [e]
      refine ⟨fun g hg => ?_, by simp only [val, i2]; omega, ?_, .inr ?_, ?_⟩
      · rcases List.mem_cons.1 hg with rfl | hg
        · omega
        · exact i1 g hg
      · simp only [List.length_cons, Int.pow_succ]; omega
      · rw [hlen, Int.pow_succ]
        rcases i4 with i4 | i4
        · rw [i4]; simp; omega
        · omega
      · rw [List.getLast_cons (dgU_ne _ _), i5, hlen, Int.pow_succ, Int.mul_comm, ← Int.ediv_ediv_of_nonneg (by omega)]

theorem len_cases (m : Nat) (h1 : 1 ≤ m) (h2 : m ≤ 10) : m = 1 ∨ m = 2 ∨ m = 3 ∨ m = 4 ∨ m = 5 ∨ m = 6 ∨ m = 7 ∨ m = 8 ∨ m = 9 ∨ m = 10 := by omega

theorem rdU64_enc (v : Int) (more : List Int) (h0 : 0 ≤ v) (h1 : v < 18446744073709551616) : rdU 64 (encU v ++ more) = (v, ((encU v).length : Int), 0) := by
  obtain ⟨i1, i2, i3, i4, i5⟩ := dgU_spec 9 v h0 (by simp; omega)
  have hl := dgU_len 9 v
  have hp : 0 < (dgU 9 v).length := List.length_pos_iff.2 (dgU_ne _ _)
  unfold rdU encU
  rw [dec_bytes 64 fitU (by omega) more _ (dgU_ne 9 v) i1 0 0 (by omega) (by omega) (by simp), bytesOf_length, i5, i2]
  rw [if_pos]
  · simp; omega
  · generalize (dgU 9 v).length = m at *
    rcases len_cases m hp (by omega) with rfl | rfl | rfl | rfl | rfl | rfl | rfl | rfl | rfl | rfl
    all_goals first | (left; decide) | skip
    right
    refine ⟨by decide, ?_⟩
    simp [fitU] at *
    omega

theorem rdU32_enc (v : Int) (more : List Int) (h0 : 0 ≤ v) (h1 : v < 18446744073709551616) : rdU 32 (encU v ++ more) = if v < 4294967296 then (v, ((encU v).length : Int), 0) else (0, 0, 2) := by
  obtain ⟨i1, i2, i3, i4, i5⟩ := dgU_spec 9 v h0 (by simp; omega)
  have hl := dgU_len 9 v
  have hp : 0 < (dgU 9 v).length := List.length_pos_iff.2 (dgU_ne _ _)
  unfold rdU encU
  rw [dec_bytes 32 fitU (by omega) more _ (dgU_ne 9 v) i1 0 0 (by omega) (by omega) (by simp), bytesOf_length, i5, i2]
  have ev : (0 + v * 2 ^ (0 * 7)) % 18446744073709551616 = v := by simp; omega
  rw [ev]
  congr 1
  · generalize (dgU 9 v).length = m at *
    rcases len_cases m hp (by omega) with rfl | rfl | rfl | rfl | rfl | rfl | rfl | rfl | rfl | rfl <;> simp [fitU] at * <;> omega
  · simp
end Go.Proofs.Ytdngkbagfaeplaa
