/- Texts joined: SectMath, ModMath, ReaderS, Nums32, CodeSrc. -/
import Derived.Test.YtadgiekiiicmfaaGreatDoorJoin2
import Derived.Test.YtadgiekiiicmfaaGreatDoorJoin5
import Derived.Test.YtadgiekiiicmfaaGreatDoorJoin4
/- Sections, as plain functions of bytes. No function of the program. -/
namespace Go.Proofs.YtadgiekiiicmfaaGreatDoor
open Go.RowKit
set_option maxRecDepth 100000
set_option linter.unusedVariables false

/-- The IDs that have a place, in their order. -/
def secOrder : List Int := [1, 2, 3, 4, 5, 6, 7, 8, 9, 12, 10, 11]
/-- Behind which place an ID stands that may come when k places are used. -/
def placeIn (k : Nat) (id : Int) : Option Nat := ((secOrder.drop k).findIdx? (· == id)).map fun p => k + p + 1
/-- A length, and as many bytes. -/
def pSized : PR (List Int) := seq (pU 32) fun n => pBytes n.toNat
def nameOk (b : List Int) : Bool := match pSized b with
  | .ok r => vd r.1
  | .error _ => false
/-- A section's ID, and how many places are used then. -/
def pId (k : Nat) : PR (Int × Nat) := seq pByte fun id l => if id = 0 then .ok ((0, k), l) else match placeIn k id with
  | none => .error 2
  | some k' => .ok ((id, k'), l)
/-- A section. -/
abbrev Sec := Int × List Int
def pSec (k : Nat) : PR (Sec × Nat) := seq (pId k) fun q => seq pSized fun b l => if q.1 = 0 ∧ nameOk b = false then .error 2 else .ok (((q.1, b), q.2), l)
def pSecs : Nat → Nat → List Sec → PR (List Sec)
  | 0, _, acc => fun l => .ok (acc, l)
  | n + 1, k, acc => fun l => if l = [] then .ok (acc, []) else bd (pSec k l) fun r => pSecs n r.1.2 (acc ++ [r.1.1]) r.2
def secFront : List Int := [0, 97, 115, 109, 1, 0, 0, 0]
def pFront (l : List Int) : St := if l.length < 8 then .error 3 else if l.take 8 = secFront then .ok (l.drop 8) else .error 2
/-- The sections that bytes are. -/
def split (b : List Int) : Except Int (List Sec) := bd (pFront b) fun l => bd (pSecs l.length 0 [] l) fun r => .ok r.1
def spL (r : Except Int (List Sec)) : List Sec := match r with
  | .ok q => q
  | .error _ => []
def spE (r : Except Int (List Sec)) : Int := match r with
  | .ok _ => 0
  | .error e => e

theorem placeIn_le {k k' : Nat} {id : Int} (hk : k ≤ 12) (h : placeIn k id = some k') : k < k' ∧ k' ≤ 12 ∧ secOrder.getD (k' - 1) 0 = id := by
  unfold placeIn at h
  obtain ⟨p, hp, rfl⟩ := Option.map_eq_some_iff.1 h
  obtain ⟨h1, h2, _⟩ := List.findIdx?_eq_some_iff_getElem.1 hp
  have hl : (secOrder.drop k).length = 12 - k := by simp [secOrder]
  refine ⟨by omega, by omega, ?_⟩
  simp only [beq_iff_eq, List.getElem_drop] at h2
  rw [show k + p + 1 - 1 = k + p from by omega, List.getD_eq_getElem?_getD, List.getElem?_eq_getElem (by simp [secOrder]; omega)]
  exact h2
theorem pByte_lt {l l' : List Int} {x : Int} (h : pByte l = .ok (x, l')) : l'.length < l.length := by
  cases l with
  | nil => cases h
  | cons y t => simp [pByte] at h; obtain ⟨rfl, rfl⟩ := h; simp
theorem pU_le {bits : Int} {l l' : List Int} {x : Int} (h : pU bits l = .ok (x, l')) : l'.length ≤ l.length := by
  unfold pU at h
  split at h
  · injection h with h; injection h with _ h; subst h; simp
  · cases h
theorem pBytes_le {n : Nat} {l l' x : List Int} (h : pBytes n l = .ok (x, l')) : l'.length ≤ l.length ∧ x = l.take n ∧ l' = l.drop n ∧ n ≤ l.length := by
  unfold pBytes at h
  split at h
  · rename_i hn; injection h with h; injection h with h1 h; subst h; exact ⟨by simp, h1.symm, rfl, hn⟩
  · cases h
theorem seq_ok {α β : Type} {p : PR α} {f : α → PR β} {l l' : List Int} {b : β} (h : seq p f l = .ok (b, l')) : ∃ a l1, p l = .ok (a, l1) ∧ f a l1 = .ok (b, l') := by
  unfold seq at h
  cases hp : p l with
  | error e => rw [hp] at h; cases h
  | ok r => rw [hp] at h; exact ⟨r.1, r.2, rfl, h⟩
theorem pSized_le {l l' x : List Int} (h : pSized l = .ok (x, l')) : l'.length ≤ l.length ∧ x.length ≤ l.length ∧ (IsBytes l → IsBytes x) := by
  obtain ⟨n, l1, h1, h2⟩ := seq_ok h
  obtain ⟨h3, h4, h5, h6⟩ := pBytes_le h2
  have h7 := pU_le h1
  refine ⟨by omega, by subst h4; simp; omega, fun hl => ?_⟩
  subst h4
  unfold pU at h1
  split at h1
  · injection h1 with h1; injection h1 with _ h1; subst h1
    exact fun z hz => hl z (List.mem_of_mem_drop (List.mem_of_mem_take hz))
  · cases h1
theorem pId_lt {k : Nat} {l l' : List Int} {q : Int × Nat} (hk : k ≤ 12) (h : pId k l = .ok (q, l')) : l'.length < l.length ∧ q.2 ≤ 12 := by
  obtain ⟨id, l1, h1, h2⟩ := seq_ok h
  have h3 := pByte_lt h1
  split at h2
  · injection h2 with h2; injection h2 with h4 h5; subst h4 h5; exact ⟨h3, hk⟩
  · split at h2
    · cases h2
    · rename_i k' hk'
      injection h2 with h2; injection h2 with h4 h5; subst h4 h5; exact ⟨h3, (placeIn_le hk hk').2.1⟩
theorem pSec_lt {k : Nat} {l l' : List Int} {q : Sec × Nat} (hk : k ≤ 12) (h : pSec k l = .ok (q, l')) : l'.length < l.length ∧ q.2 ≤ 12 := by
  obtain ⟨a, l1, h1, h2⟩ := seq_ok h
  obtain ⟨b, l2, h3, h4⟩ := seq_ok h2
  obtain ⟨h5, h6⟩ := pId_lt hk h1
  have h7 := (pSized_le h3).1
  split at h4
  · cases h4
  · injection h4 with h4; injection h4 with h8 h9; subst h8 h9; exact ⟨by omega, h6⟩
/-- Fuel beyond the bytes makes no difference. -/
theorem pSecs_fuel : ∀ (n m k : Nat) (acc : List Sec) (l : List Int), k ≤ 12 → l.length ≤ n → l.length ≤ m → pSecs n k acc l = pSecs m k acc l := by
  intro n
  induction n with
  | zero =>
    intro m k acc l hk h1 h2
    obtain rfl : l = [] := List.eq_nil_of_length_eq_zero (by omega)
    cases m <;> simp [pSecs]
  | succ n ih =>
    intro m k acc l hk h1 h2
    cases m with
    | zero =>
      obtain rfl : l = [] := List.eq_nil_of_length_eq_zero (by omega)
      simp [pSecs]
    | succ m =>
      simp only [pSecs]
      by_cases hl : l = []
      · simp [hl]
      · simp only [hl, if_false]
        cases hp : pSec k l with
        | error e => rfl
        | ok r =>
          have := pSec_lt (q := r.1) (l' := r.2) hk (by rw [hp])
          exact ih m _ _ _ this.2 (by omega) (by omega)
/-- What is left from a state on. -/
def goSecs (k : Nat) (acc : List Sec) (s : St) : Except Int (List Sec) := bd s fun l => bd (pSecs l.length k acc l) fun r => .ok r.1
theorem goSecs_nil (k : Nat) (acc : List Sec) : goSecs k acc (.ok []) = .ok acc := rfl
theorem goSecs_error (k : Nat) (acc : List Sec) (e : Int) : goSecs k acc (.error e) = .error e := rfl
theorem goSecs_step {k : Nat} (hk : k ≤ 12) (acc : List Sec) {l : List Int} (hl : l ≠ []) {x : Sec} {k' : Nat} (h : ∀ r l', pSec k l = .ok (r, l') → r = (x, k')) : goSecs k acc (.ok l) = goSecs k' (acc ++ [x]) (nx (pSec k) (.ok l)) := by
  unfold goSecs
  rw [bd_ok, nx_ok]
  obtain ⟨n, hn⟩ : ∃ n, l.length = n + 1 := ⟨l.length - 1, by have := List.length_pos_iff.2 hl; omega⟩
  rw [hn]
  simp only [pSecs, hl, if_false]
  cases hp : pSec k l with
  | error e => rfl
  | ok r =>
    have e := h r.1 r.2 (by rw [hp])
    have hlt := pSec_lt (q := r.1) (l' := r.2) hk (by rw [hp])
    simp only [bd_ok]
    rw [e, ← pSecs_fuel r.2.length n k' _ r.2 (by have := hlt.2; rw [e] at this; exact this) (Nat.le_refl _) (by omega)]
theorem split_eq (b : List Int) : split b = goSecs 0 [] (pFront b) := by
  unfold split goSecs
  cases pFront b <;> rfl
end Go.Proofs.YtadgiekiiicmfaaGreatDoor

/- Modules: what reading them comes to, as plain functions. No function of the program. -/
namespace Go.Proofs.YtadgiekiiicmfaaGreatDoor
open Go.RowKit
set_option maxRecDepth 100000
set_option linter.unusedVariables false

/-- What was read of s is x (if anything was), and the state is s' then. -/
def KP {α : Type} (p : PR α) (s : St) (x : α) (s' : St) : Prop := bd s p = bd s' fun l => .ok (x, l)
section
variable {α β : Type} {p : PR α} {f : α → PR β} {s s' : St} {x : α}
theorem KP.of (h : ∀ a l', bd s p = .ok (a, l') → x = a) : KP p s x (nx p s) := by
  unfold KP nx
  cases hp : bd s p with
  | error e => rfl
  | ok r => rw [h r.1 r.2 hp]; rfl
theorem KP.nx (h : KP p s x s') : nx p s = s' := by
  unfold KP at h; unfold Go.Proofs.YtadgiekiiicmfaaGreatDoor.nx; rw [h]; cases s' <;> rfl
theorem KP.is (h : KP p s x s') : ∀ a l', bd s p = .ok (a, l') → x = a := fun a l' e => by
  unfold KP at h; rw [h] at e
  cases s' with
  | error y => cases e
  | ok l => injection e with e; injection e
theorem KP.seq (h : KP p s x s') : bd s (seq p f) = bd s' (f x) := by
  unfold KP at h
  have : bd s (Go.Proofs.YtadgiekiiicmfaaGreatDoor.seq p f) = bd (bd s p) fun r => f r.1 r.2 := by cases s <;> rfl
  rw [this, h]; cases s' <;> rfl
theorem KP.pure (x : α) (s : St) : KP (fun l => .ok (x, l)) s x s := rfl
theorem KP.dead {e : Int} (h : KP p s x (.error e)) (y : α) : KP p s y (.error e) := h
end
theorem bd_fail0 {α : Type} (s : St) (e : Int) (x : α) : bd s (fun _ => .error e : PR α) = bd (failS e s) fun l => .ok (x, l) := by cases s <;> rfl

/-- A number (a byte) that is not more than most. -/
def pMost (most : Int) : PR Int := seq pByte fun k l => if most < k then .error 2 else .ok (k, l)
def pMost32 (most : Int) : PR Int := seq (pU 32) fun k l => if most < k then .error 2 else .ok (k, l)
def pRefT : PR Int := seq pVal fun t l => if t = 112 ∨ t = 111 then .ok (t, l) else .error 2
/-- n of them. -/
def pRep {α : Type} (p : PR α) : Nat → PR (List α)
  | 0 => fun l => .ok ([], l)
  | n + 1 => seq (pRep p n) fun xs => seq p fun x l => .ok (xs ++ [x], l)
def pLs {α : Type} (most : Int) (p : PR α) : PR (List α) := seq (pCount most) fun n => pRep p n.toNat
abbrev TabS := Int × Lim
abbrev GlobS := Int × Bool × List Ins
abbrev ExpS := List Int × Int × Int
abbrev ElemS := Int × Int × Int × List Ins × List (List Ins)
abbrev CodeS := List Int × List Ins
abbrev DataS := Int × List Ins × List Int
def pTab : PR TabS := seq pRefT fun t => seq pLim fun x l => .ok ((t, x), l)
def pGlob : PR GlobS := seq pVal fun t => seq (pMost 1) fun k => seq pCode fun c l => .ok ((t, decide (k = 1), c), l)
def pUName : PR (List Int) := seq (pCount 32) fun n => seq (pBytes n.toNat) fun y l => if vd y then .ok (y, l) else .error 2
def pExp : PR ExpS := seq pUName fun nm => seq (pMost 3) fun k => seq (pU 32) fun i l => .ok ((nm, k, i), l)
def pFunI : PR (List Ins) := seq (pU 32) fun f l => .ok ([⟨210, f, 0, 0, [], 0⟩, ⟨11, 0, 0, 0, [], 0⟩], l)
def modeOf (k : Int) : Int := if k % 2 = 0 then 0 else if k / 2 % 2 = 1 then 2 else 1
def pElT (k : Int) : PR Int := if k % 4 = 0 then fun l => .ok (112, l) else if k / 4 % 2 = 1 then pRefT else seq (pMost 0) fun _ l => .ok (112, l)
def pElem : PR ElemS := seq (pMost32 7) fun k =>
  seq (if k % 4 = 2 then pU 32 else fun l => .ok (0, l)) fun tb =>
  seq (if k % 2 = 0 then pCode else fun l => .ok ([], l)) fun off =>
  seq (pElT k) fun ty =>
  seq (pLs 64 (if k / 4 % 2 = 1 then pCode else pFunI)) fun is l => .ok ((modeOf k, ty, tb, off, is), l)
def pLoc : Nat → List Int → PR (List Int)
  | 0, acc => fun l => .ok (acc, l)
  | n + 1, acc => seq (pCount (64 - acc.length)) fun k => seq pVal fun t => pLoc n (acc ++ List.replicate k.toNat t)
def pLocals : PR (List Int) := seq (pU 32) fun n => pLoc n.toNat []
def pOwn : PR CodeS := seq pLocals fun ls => seq pCode fun b l => .ok ((ls, b), l)
/-- All of them. -/
def allOf {α : Type} (p : PR α) (y : List Int) : Except Int α := bd (p y) fun r => if r.2 = [] then .ok r.1 else .error 2
def pCodeS : PR CodeS := seq pSized fun y l => bd (allOf pOwn y) fun r => .ok (r, l)
def pData : PR DataS := seq (pMost32 2) fun k =>
  seq (if k = 2 then pMost32 0 else fun l => .ok (0, l)) fun _ =>
  seq (if k = 1 then fun l => .ok ([], l) else pCode) fun off =>
  seq pSized fun y l => .ok ((if k = 1 then 1 else 0, off, y), l)
/-- A module. -/
structure Mo where
  types : List Fn
  funcs : List Int
  tables : List TabS
  mems : List Lim
  globals : List GlobS
  exports : List ExpS
  starts : Bool
  start : Int
  elems : List ElemS
  counts : Bool
  count : Int
  codes : List CodeS
  datas : List DataS
def mo0 : Mo := ⟨[], [], [], [], [], [], false, 0, [], false, 0, [], []⟩
def secP (id : Int) (M : Mo) : PR Mo :=
  if id = 1 then seq (pLs 32 pFn) fun x l => .ok ({ M with types := x }, l)
  else if id = 2 then seq (pU 32) fun n l => if 0 < n then .error 5 else .ok (M, l)
  else if id = 3 then seq (pLs 32 (pU 32)) fun x l => .ok ({ M with funcs := x }, l)
  else if id = 4 then seq (pLs 4 pTab) fun x l => .ok ({ M with tables := x }, l)
  else if id = 5 then seq (pLs 4 pLim) fun x l => .ok ({ M with mems := x }, l)
  else if id = 6 then seq (pLs 16 pGlob) fun x l => .ok ({ M with globals := x }, l)
  else if id = 7 then seq (pLs 32 pExp) fun x l => .ok ({ M with exports := x }, l)
  else if id = 8 then seq (pU 32) fun x l => .ok ({ M with starts := true, start := x }, l)
  else if id = 9 then seq (pLs 16 pElem) fun x l => .ok ({ M with elems := x }, l)
  else if id = 12 then seq (pU 32) fun x l => .ok ({ M with counts := true, count := x }, l)
  else if id = 10 then seq (pLs 32 pCodeS) fun x l => .ok ({ M with codes := x }, l)
  else if id = 11 then seq (pLs 16 pData) fun x l => .ok ({ M with datas := x }, l)
  else fun l => .ok (M, l)
def secM (id : Int) (y : List Int) (M : Mo) : Except Int Mo := if id = 0 then .ok M else allOf (secP id M) y
def foldM : List Sec → Mo → Except Int Mo
  | [], M => .ok M
  | x :: xs, M => bd (secM x.1 x.2 M) (foldM xs)
/-- memory.init, data.drop. -/
def namesB (x : Ins) : Bool := decide (x.op = 64520) || decide (x.op = 64521)
def agreesS (M : Mo) : Bool := decide (M.codes.length = M.funcs.length) && (if M.counts then decide (M.count = (M.datas.length : Int)) else !(M.codes.any fun c => c.2.any namesB))
def modP (b : List Int) : Except Int Mo := if 4096 < b.length then .error 4 else bd (split b) fun xs => bd (foldM xs mo0) fun M => if agreesS M then .ok M else .error 2
theorem seq_dead {α β : Type} {p : PR α} {f : α → PR β} {s : St} {e : Int} (h : nx p s = .error e) : nx (seq p f) s = .error e := by
  cases s with
  | error y => exact h
  | ok l =>
    rw [nx_ok] at h ⊢
    unfold seq
    cases hp : p l with
    | error y => rw [hp] at h; exact h
    | ok r => rw [hp] at h; cases h
theorem pRep_dead {α : Type} {p : PR α} {s : St} {i n : Nat} {e : Int} (h : nx (pRep p i) s = .error e) (hi : i ≤ n) : nx (pRep p n) s = .error e := by
  induction n with
  | zero =>
    obtain rfl : i = 0 := by omega
    exact h
  | succ n ih =>
    rcases Nat.lt_or_ge i (n + 1) with hlt | hge
    · exact seq_dead (ih (by omega))
    · obtain rfl : i = n + 1 := by omega
      exact h
theorem pRep_step {α : Type} {p : PR α} {s s1 s2 : St} {i : Nat} {xs : List α} {x : α} (h1 : KP (pRep p i) s xs s1) (h2 : KP p s1 x s2) : KP (pRep p (i + 1)) s (xs ++ [x]) s2 := by
  unfold KP
  rw [pRep, h1.seq, h2.seq]
theorem pRep_zero {α : Type} (p : PR α) (s : St) : KP (pRep p 0) s [] s := rfl
end Go.Proofs.YtadgiekiiicmfaaGreatDoor

/- Package reader: signed numbers, and Failed. (Written by gen_ReaderS.py.) -/
namespace Go.Proofs.YtadgiekiiicmfaaGreatDoor
open Go.RowKit
set_option maxRecDepth 100000
set_option linter.unusedVariables false

/-- A signed number that was read. -/
def SgPost (K : IntKind) (lo hi : Int) (R : Int → Int → Prop) (p : PR Int) (g : Nat) (t : TypeId) (tl : RTl) (s : St) (w : World) (e : Ending) (w' : World) : Prop :=
  ∃ x, e = .returned (.int K x) ∧ lo ≤ x ∧ x ≤ hi ∧ RdrAt w' g t tl (nx p s) ∧ (∀ a l', bd s p = .ok (a, l') → R x a) ∧ Chg (fun k => k = g) w w'
theorem wrap32_rng (u : Int) : -2147483648 ≤ wrap32 u ∧ wrap32 u ≤ 2147483647 ∧ wrap32 u % 4294967296 = u % 4294967296 := by
  unfold wrap32
  refine ⟨?_, ?_, ?_⟩ <;> omega

def failedS (s : St) : Bool := match s with
  | .error _ => true
  | .ok _ => false
theorem rfailed_any (g : Nat) (t : TypeId) (tl : RTl) (s : St) (w : World) (h : RdrAt w g t tl s) :
    Calls Tryz.prog 155 #[.pointer (some ⟨g, 0, none⟩)] w fun e w' => e = .returned (.bool (failedS s)) ∧ w = w' := by
  cases s with
  | ok l =>
    obtain ⟨A, c, r, h1, -⟩ := h
    obtain ⟨hc0, hc1, hc2, hf0, hf1, hf2⟩ := own_cells3 h1
    clear h1
    generalize l.length = q at *
    go_enter Tryz.func155, Tryz.ntmps155
    go_wp2
    go_ret
    exact ⟨rfl, rfl⟩
  | error e =>
    obtain ⟨h1, he, -⟩ := h
    obtain ⟨hc0, hc1, hc2, hf0, hf1, hf2⟩ := own_cells3 h1
    clear h1
    have hne : (e != 0) = true := by simp; omega
    go_enter Tryz.func155, Tryz.ntmps155
    go_wp2
    go_ret
    exact ⟨rfl, rfl⟩

set_option maxHeartbeats 1000000 in
theorem rnumS32_any (g : Nat) (t : TypeId) (tl : RTl) (s : St) (w : World) (h : RdrAt w g t tl s) :
    Calls Tryz.prog 207 #[.pointer (some ⟨g, 0, none⟩), .func (.func 208) #[] #[]] w (SgPost .i32 (-2147483648) 2147483647 (fun x a => x % 4294967296 = a % 4294967296) (pS 32) g t tl s w) := by
  rcases s with e | l
  · have HF := Lib.hid (rfail_any g t tl _ 3 w h (by omega) (by omega))
    obtain ⟨h1, he, he2⟩ := h
    obtain ⟨hc0, hc1, hc2, hf0, hf1, hf2⟩ := own_cells3 h1
    have HU := Lib.hid (S32_any none [] 0 0 w (Rd.nil _ _ _) rfl (by decide))
    clear h1
    go_enter Tryz.func207, Tryz.ntmps207
    go_wp2_with fail
    refine HU.out.mono ?_
    rintro e w' ⟨rfl, rfl⟩
    simp only [three, rdS, dec, on1, show ((3 : Int) = 0) = False from by simp, if_false]
    go_wp2_with fail
    refine HF.out.mono ?_
    rintro e w' ⟨⟨u, rfl⟩, h2, hc⟩
    have HC := Lib.hid (And.intro h2 hc)
    clear h2 hc
    go_wp2
    go_ret
    exact ⟨wrap32 0, rfl, (wrap32_rng 0).1, (wrap32_rng 0).2.1, HC.out.1, (fun a l' h => by cases h), HC.out.2⟩
  · have HF := Lib.hid (fun x hx hx2 => rfail_any g t tl _ x w h hx hx2)
    have HH := Lib.hid h
    obtain ⟨A, c, r, h1, hr, hlc, hcm, hlm, -⟩ := h
    obtain ⟨hc0, hc1, hc2, hf0, hf1, hf2⟩ := own_cells3 h1
    have HU := Lib.hid (S32_any A l l.length c w hr.rd rfl (by unfold maxLen; omega))
    have bad : ∀ x, rdS 32 l = (0, 0, x) → 0 < x → x ≤ 100 → (x == 0) = false → Calls Tryz.prog 207 #[.pointer (some ⟨g, 0, none⟩), .func (.func 208) #[] #[]] w (SgPost .i32 (-2147483648) 2147483647 (fun x a => x % 4294967296 = a % 4294967296) (pS 32) g t tl (.ok l) w) := by
      intro x hd hx hx2 hx3
      have HD := Lib.hid hd
      have HP := Lib.hid (pS_no hd (by omega))
      clear h1 hr hd hlc hcm hlm
      generalize l.length = q at *
      go_enter Tryz.func207, Tryz.ntmps207
      go_wp2_with fail
      refine HU.out.mono ?_
      rw [HD.out]
      simp only [three, on1]
      rintro e w' ⟨rfl, rfl⟩
      go_wp2_with fail
      refine (HF.out x hx hx2).mono ?_
      rintro e w' ⟨⟨u, rfl⟩, h2, hc⟩
      have HC := Lib.hid (And.intro h2 hc)
      clear h2 hc
      go_wp2
      go_ret
      refine ⟨wrap32 0, rfl, (wrap32_rng 0).1, (wrap32_rng 0).2.1, ?_, (fun a l' h => ?_), HC.out.2⟩
      · rw [nx_ok, HP.out]; exact HC.out.1
      · rw [bd_ok, HP.out] at h; cases h
    rcases rdS_cases 32 (by omega) (by omega) l with hd | hd | ⟨u, m, hd, hu0, hu1, hm1, hm2, hm3⟩
    · exact bad 3 hd (by omega) (by omega) rfl
    · exact bad 2 hd (by omega) (by omega) rfl
    · have HS := Lib.hid (rskip_any g t tl l m w HH.out hm3)
      have HD := Lib.hid hd
      have HP := Lib.hid (pS_ok hd)
      clear h1 hr hd hlc hcm bad hm3
      generalize l.length = q at *
      go_enter Tryz.func207, Tryz.ntmps207
      go_wp2_with fail
      refine HU.out.mono ?_
      rw [HD.out]
      simp only [three, on1]
      rintro e w' ⟨rfl, rfl⟩
      go_wp2_with fail
      refine HS.out.mono ?_
      rintro e w' ⟨⟨u2, rfl⟩, h2, hc⟩
      have HC := Lib.hid (And.intro h2 hc)
      clear h2 hc
      go_wp2
      go_ret
      refine ⟨wrap32 u, rfl, (wrap32_rng u).1, (wrap32_rng u).2.1, ?_, (fun a l' h => ?_), HC.out.2⟩
      · rw [nx_ok, HP.out]; simpa using HC.out.1
      · rw [bd_ok, HP.out] at h; injection h with h; injection h with h _; rw [← h]; exact (wrap32_rng u).2.2
theorem rS32_any (g : Nat) (t : TypeId) (tl : RTl) (s : St) (w : World) (h : RdrAt w g t tl s) :
    Calls Tryz.prog 199 #[.pointer (some ⟨g, 0, none⟩)] w (SgPost .i32 (-2147483648) 2147483647 (fun x a => x % 4294967296 = a % 4294967296) (pS 32) g t tl s w) := by
  have HN := Lib.hid (rnumS32_any g t tl s w h)
  clear h
  go_enter Tryz.func199, Tryz.ntmps199
  go_wp2_with fail
  refine HN.out.mono ?_
  rintro e w' ⟨x, rfl, h0, h1, h2⟩
  have H2 := Lib.hid h2
  clear h2
  go_wp2
  go_ret
  exact ⟨x, rfl, h0, h1, H2.out⟩

set_option maxHeartbeats 1000000 in
theorem rnumS33_any (g : Nat) (t : TypeId) (tl : RTl) (s : St) (w : World) (h : RdrAt w g t tl s) :
    Calls Tryz.prog 209 #[.pointer (some ⟨g, 0, none⟩), .func (.func 214) #[] #[]] w (SgPost .i64 (-9223372036854775808) 9223372036854775807 (fun x a => x = a) (pS 33) g t tl s w) := by
  rcases s with e | l
  · have HF := Lib.hid (rfail_any g t tl _ 3 w h (by omega) (by omega))
    obtain ⟨h1, he, he2⟩ := h
    obtain ⟨hc0, hc1, hc2, hf0, hf1, hf2⟩ := own_cells3 h1
    have HU := Lib.hid (S33_any none [] 0 0 w (Rd.nil _ _ _) rfl (by decide))
    clear h1
    go_enter Tryz.func209, Tryz.ntmps209
    go_wp2_with fail
    refine HU.out.mono ?_
    rintro e w' ⟨rfl, rfl⟩
    simp only [three, rdS, dec, show ((3 : Int) = 0) = False from by simp, if_false]
    go_wp2_with fail
    refine HF.out.mono ?_
    rintro e w' ⟨⟨u, rfl⟩, h2, hc⟩
    have HC := Lib.hid (And.intro h2 hc)
    clear h2 hc
    go_wp2
    go_ret
    exact ⟨0, rfl, by omega, by omega, HC.out.1, (fun a l' h => by cases h), HC.out.2⟩
  · have HF := Lib.hid (fun x hx hx2 => rfail_any g t tl _ x w h hx hx2)
    have HH := Lib.hid h
    obtain ⟨A, c, r, h1, hr, hlc, hcm, hlm, -⟩ := h
    obtain ⟨hc0, hc1, hc2, hf0, hf1, hf2⟩ := own_cells3 h1
    have HU := Lib.hid (S33_any A l l.length c w hr.rd rfl (by unfold maxLen; omega))
    have bad : ∀ x, rdS 33 l = (0, 0, x) → 0 < x → x ≤ 100 → (x == 0) = false → Calls Tryz.prog 209 #[.pointer (some ⟨g, 0, none⟩), .func (.func 214) #[] #[]] w (SgPost .i64 (-9223372036854775808) 9223372036854775807 (fun x a => x = a) (pS 33) g t tl (.ok l) w) := by
      intro x hd hx hx2 hx3
      have HD := Lib.hid hd
      have HP := Lib.hid (pS_no hd (by omega))
      clear h1 hr hd hlc hcm hlm
      generalize l.length = q at *
      go_enter Tryz.func209, Tryz.ntmps209
      go_wp2_with fail
      refine HU.out.mono ?_
      rw [HD.out]
      simp only [three]
      rintro e w' ⟨rfl, rfl⟩
      go_wp2_with fail
      refine (HF.out x hx hx2).mono ?_
      rintro e w' ⟨⟨u, rfl⟩, h2, hc⟩
      have HC := Lib.hid (And.intro h2 hc)
      clear h2 hc
      go_wp2
      go_ret
      refine ⟨0, rfl, by omega, by omega, ?_, (fun a l' h => ?_), HC.out.2⟩
      · rw [nx_ok, HP.out]; exact HC.out.1
      · rw [bd_ok, HP.out] at h; cases h
    rcases rdS_cases 33 (by omega) (by omega) l with hd | hd | ⟨u, m, hd, hu0, hu1, hm1, hm2, hm3⟩
    · exact bad 3 hd (by omega) (by omega) rfl
    · exact bad 2 hd (by omega) (by omega) rfl
    · have HS := Lib.hid (rskip_any g t tl l m w HH.out hm3)
      have HD := Lib.hid hd
      have HP := Lib.hid (pS_ok hd)
      clear h1 hr hd hlc hcm bad hm3
      generalize l.length = q at *
      go_enter Tryz.func209, Tryz.ntmps209
      go_wp2_with fail
      refine HU.out.mono ?_
      rw [HD.out]
      simp only [three]
      rintro e w' ⟨rfl, rfl⟩
      go_wp2_with fail
      refine HS.out.mono ?_
      rintro e w' ⟨⟨u2, rfl⟩, h2, hc⟩
      have HC := Lib.hid (And.intro h2 hc)
      clear h2 hc
      go_wp2
      go_ret
      refine ⟨u, rfl, by omega, by omega, ?_, (fun a l' h => ?_), HC.out.2⟩
      · rw [nx_ok, HP.out]; simpa using HC.out.1
      · rw [bd_ok, HP.out] at h; injection h with h; injection h
theorem rS33_any (g : Nat) (t : TypeId) (tl : RTl) (s : St) (w : World) (h : RdrAt w g t tl s) :
    Calls Tryz.prog 211 #[.pointer (some ⟨g, 0, none⟩)] w (SgPost .i64 (-9223372036854775808) 9223372036854775807 (fun x a => x = a) (pS 33) g t tl s w) := by
  have HN := Lib.hid (rnumS33_any g t tl s w h)
  clear h
  go_enter Tryz.func211, Tryz.ntmps211
  go_wp2_with fail
  refine HN.out.mono ?_
  rintro e w' ⟨x, rfl, h0, h1, h2⟩
  have H2 := Lib.hid h2
  clear h2
  go_wp2
  go_ret
  exact ⟨x, rfl, h0, h1, H2.out⟩

set_option maxHeartbeats 1000000 in
theorem rnumS64_any (g : Nat) (t : TypeId) (tl : RTl) (s : St) (w : World) (h : RdrAt w g t tl s) :
    Calls Tryz.prog 209 #[.pointer (some ⟨g, 0, none⟩), .func (.func 210) #[] #[]] w (SgPost .i64 (-9223372036854775808) 9223372036854775807 (fun x a => x = a) (pS 64) g t tl s w) := by
  rcases s with e | l
  · have HF := Lib.hid (rfail_any g t tl _ 3 w h (by omega) (by omega))
    obtain ⟨h1, he, he2⟩ := h
    obtain ⟨hc0, hc1, hc2, hf0, hf1, hf2⟩ := own_cells3 h1
    have HU := Lib.hid (S64_any none [] 0 0 w (Rd.nil _ _ _) rfl (by decide))
    clear h1
    go_enter Tryz.func209, Tryz.ntmps209
    go_wp2_with fail
    refine HU.out.mono ?_
    rintro e w' ⟨rfl, rfl⟩
    simp only [three, rdS, dec, show ((3 : Int) = 0) = False from by simp, if_false]
    go_wp2_with fail
    refine HF.out.mono ?_
    rintro e w' ⟨⟨u, rfl⟩, h2, hc⟩
    have HC := Lib.hid (And.intro h2 hc)
    clear h2 hc
    go_wp2
    go_ret
    exact ⟨0, rfl, by omega, by omega, HC.out.1, (fun a l' h => by cases h), HC.out.2⟩
  · have HF := Lib.hid (fun x hx hx2 => rfail_any g t tl _ x w h hx hx2)
    have HH := Lib.hid h
    obtain ⟨A, c, r, h1, hr, hlc, hcm, hlm, -⟩ := h
    obtain ⟨hc0, hc1, hc2, hf0, hf1, hf2⟩ := own_cells3 h1
    have HU := Lib.hid (S64_any A l l.length c w hr.rd rfl (by unfold maxLen; omega))
    have bad : ∀ x, rdS 64 l = (0, 0, x) → 0 < x → x ≤ 100 → (x == 0) = false → Calls Tryz.prog 209 #[.pointer (some ⟨g, 0, none⟩), .func (.func 210) #[] #[]] w (SgPost .i64 (-9223372036854775808) 9223372036854775807 (fun x a => x = a) (pS 64) g t tl (.ok l) w) := by
      intro x hd hx hx2 hx3
      have HD := Lib.hid hd
      have HP := Lib.hid (pS_no hd (by omega))
      clear h1 hr hd hlc hcm hlm
      generalize l.length = q at *
      go_enter Tryz.func209, Tryz.ntmps209
      go_wp2_with fail
      refine HU.out.mono ?_
      rw [HD.out]
      simp only [three]
      rintro e w' ⟨rfl, rfl⟩
      go_wp2_with fail
      refine (HF.out x hx hx2).mono ?_
      rintro e w' ⟨⟨u, rfl⟩, h2, hc⟩
      have HC := Lib.hid (And.intro h2 hc)
      clear h2 hc
      go_wp2
      go_ret
      refine ⟨0, rfl, by omega, by omega, ?_, (fun a l' h => ?_), HC.out.2⟩
      · rw [nx_ok, HP.out]; exact HC.out.1
      · rw [bd_ok, HP.out] at h; cases h
    rcases rdS_cases 64 (by omega) (by omega) l with hd | hd | ⟨u, m, hd, hu0, hu1, hm1, hm2, hm3⟩
    · exact bad 3 hd (by omega) (by omega) rfl
    · exact bad 2 hd (by omega) (by omega) rfl
    · have HS := Lib.hid (rskip_any g t tl l m w HH.out hm3)
      have HD := Lib.hid hd
      have HP := Lib.hid (pS_ok hd)
      clear h1 hr hd hlc hcm bad hm3
      generalize l.length = q at *
      go_enter Tryz.func209, Tryz.ntmps209
      go_wp2_with fail
      refine HU.out.mono ?_
      rw [HD.out]
      simp only [three]
      rintro e w' ⟨rfl, rfl⟩
      go_wp2_with fail
      refine HS.out.mono ?_
      rintro e w' ⟨⟨u2, rfl⟩, h2, hc⟩
      have HC := Lib.hid (And.intro h2 hc)
      clear h2 hc
      go_wp2
      go_ret
      refine ⟨u, rfl, by omega, by omega, ?_, (fun a l' h => ?_), HC.out.2⟩
      · rw [nx_ok, HP.out]; simpa using HC.out.1
      · rw [bd_ok, HP.out] at h; injection h with h; injection h
theorem rS64_any (g : Nat) (t : TypeId) (tl : RTl) (s : St) (w : World) (h : RdrAt w g t tl s) :
    Calls Tryz.prog 200 #[.pointer (some ⟨g, 0, none⟩)] w (SgPost .i64 (-9223372036854775808) 9223372036854775807 (fun x a => x = a) (pS 64) g t tl s w) := by
  have HN := Lib.hid (rnumS64_any g t tl s w h)
  clear h
  go_enter Tryz.func200, Tryz.ntmps200
  go_wp2_with fail
  refine HN.out.mono ?_
  rintro e w' ⟨x, rfl, h0, h1, h2⟩
  have H2 := Lib.hid h2
  clear h2
  go_wp2
  go_ret
  exact ⟨x, rfl, h0, h1, H2.out⟩
end Go.Proofs.YtadgiekiiicmfaaGreatDoor

/- Slices of numbers of 32 bits: what the walks lean on. No function of the program. -/
namespace Go.Proofs.YtadgiekiiicmfaaGreatDoor
open Go.RowKit
set_option maxRecDepth 100000
set_option linter.unusedVariables false

theorem under_nums32 : Tryz.prog.underlying 26 = some (.slice 31) := Tryz.underlying26
theorem num32_info : (Tryz.prog.info? 31).map (fun i => (i.zero, i.size, i.bytes)) = some (some (.int .u32 0), 1, 4) := by kernel_rfl
theorem num32_size : (Tryz.prog.info? 31).map (·.size) = some 1 := by kernel_rfl
def IsU32 (l : List Int) : Prop := ∀ z ∈ l, 0 ≤ z ∧ z < 4294967296
theorem IsU32.nil : IsU32 [] := fun z hz => by simp at hz
theorem IsU32.app {a b : List Int} (ha : IsU32 a) (hb : IsU32 b) : IsU32 (a ++ b) := fun z hz => by
  rcases List.mem_append.1 hz with h | h
  · exact ha z h
  · exact hb z h
theorem IsU32.one {z : Int} (h0 : 0 ≤ z) (h1 : z < 4294967296) : IsU32 [z] := fun y hy => by simp at hy; subst hy; exact ⟨h0, h1⟩
/-- A slice of numbers in a block of the call's own. -/
def OwnQ (w : World) (base : Nat) (v : Value) (l : List Int) : Prop := w.ownsRow base 31 1 v l.length (l.map (Value.int .u32))
/-- Numbers that are read, in blocks of X. -/
def RdQ (X : Nat → Prop) (w : World) (A : Option Addr) (l : List Int) : Prop := IsU32 l ∧ RdV X w A (l.map (Value.int .u32))
section
variable {X : Nat → Prop} {w w' : World} {A : Option Addr} {l : List Int} {B : Nat}
theorem RdQ.chg {S : Nat → Prop} (h : RdQ X w A l) (hc : Chg S w w') (hs : ∀ k, k < w.heap.size → X k → ¬ S k) : RdQ X w' A l := ⟨h.1, h.2.chg hc hs⟩
theorem RdQ.drewN (h : RdQ X w A l) (n : Nat) : RdQ X (w.drewN n) A l := ⟨h.1, h.2.drewN n⟩
theorem RdQ.later (h : RdQ X w A l) (hc : Below w.heap.size w w') : RdQ X w' A l := ⟨h.1, h.2.later hc⟩
theorem RdQ.mono {Y : Nat → Prop} (h : RdQ X w A l) (hx : ∀ k, k < w.heap.size → X k → Y k) : RdQ Y w A l := ⟨h.1, h.2.mono hx⟩
theorem RdQ.nil (X : Nat → Prop) (w : World) (A : Option Addr) : RdQ X w A [] := ⟨IsU32.nil, RdV.nil _ _ _⟩
theorem map_u32_get {j : Nat} (hj : j < l.length) : (l.map (Value.int .u32))[j]? = some (.int .u32 (l.getD j 0)) := by
  simp [List.getElem?_eq_getElem hj, List.getD_eq_getElem?_getD]
theorem RdQ.at_ (h : RdQ X w A l) {j : Nat} (hj : j < l.length) : ∃ b o, A = some ⟨b, o, none⟩ ∧ w.cell? ⟨b, o + j, none⟩ = some (.int .u32 (l.getD j 0)) ∧ 0 ≤ l.getD j 0 ∧ l.getD j 0 < 4294967296 := by
  obtain ⟨b, o, hA, hX, hlt, hc⟩ := h.2.spot (by simp; omega)
  refine ⟨b, o, hA, hc j _ (map_u32_get hj), h.1 _ ?_⟩
  rw [List.getD_eq_getElem?_getD, List.getElem?_eq_getElem hj]; exact List.getElem_mem hj
end
theorem OwnQ.nil (w : World) (base : Nat) : OwnQ w base (.slice none 0 0) [] := World.ownsRow_nil w base _ _
theorem OwnQ.rdQ {w : World} {base : Nat} {v : Value} {l : List Int} (h : OwnQ w base v l) (hl : IsU32 l) : ∃ A c, v = .slice A l.length c ∧ l.length ≤ c ∧ c ≤ maxLen ∧ RdQ (fun k => v.ownBlock = some k) w A l := by
  obtain ⟨A, c, h1, h2, h3, h4⟩ := RdV.of_own h
  exact ⟨A, c, h1, h2, h3, hl, h4⟩
theorem OwnQ.chg {S : Nat → Prop} {w w' : World} {base : Nat} {v : Value} {l : List Int} (h : OwnQ w base v l) (hc : Chg S w w') (hg : ∀ g, v.ownBlock = some g → ¬ S g) : OwnQ w' base v l := owns_chg h hc hg
theorem OwnQ.later {w w' : World} {base : Nat} {v : Value} {l : List Int} (h : OwnQ w base v l) (hb : Below w.heap.size w w') : OwnQ w' base v l := h.chg (S := fun _ => False) (Chg.of_below hb) fun _ _ => id
theorem OwnQ.base {w : World} {base base' : Nat} {v : Value} {l : List Int} (h : OwnQ w base v l) (hb : base' ≤ base) : OwnQ w base' v l := owns_base h hb

/-- The block that was just built for some numbers. -/
theorem rdQ_lit (w : World) (l : List Int) (hl : IsU32 l) : RdQ (fun k => k = w.heap.size) (w.alloc (.cells (l.map (Value.int .u32)).toArray 31)) (some ⟨w.heap.size, 0, none⟩) l := by
  refine ⟨hl, fun j u hu => ⟨_, rfl, by simp, ?_⟩⟩
  have h := (Own.new w 31 (l.map (Value.int .u32))).cell j
  rw [addPlain, Nat.zero_add, h, hu]

/-- append(s, z): one number more, out of the block that was just built for it. -/
theorem wpList_appQ1 {ops : Array Oper} {rest : List Oper} {o : Oper} {a : Act} {Q : Exit → Act → World → Prop} {w : World} (hgd : o.guard = none) (s x : Operand)
    (ho : o.op = .call { callee := .builtin .append, args := #[s, x], argTypes := #[26, 26] }) (base : Nat) (v : Value) (l : List Int) (hs : a.eval s = v) (hown : OwnQ w base v l)
    (z : Int) (hx : a.eval x = .slice (some ⟨w.heap.size, 0, none⟩) 1 1) (hz0 : 0 ≤ z) (hz1 : z < 4294967296) (hlen : l.length + 1 ≤ 1000000000) (hbase : base ≤ w.heap.size)
    (h : ∀ v' w', OwnQ w' base v' (l ++ [z]) → Below base w w' → wpList Tryz.prog ops Q rest (a.put o.dst v') w') : wpList Tryz.prog ops Q (o :: rest) a (w.alloc (.cells #[.int .u32 z] 31)) := by
  have hb : Below w.heap.size w (w.alloc (.cells #[.int .u32 z] 31)) := (Below.refl _ _).alloc (Nat.le_refl _) _
  have hr := rdQ_lit w [z] (IsU32.one hz0 hz1)
  have hown' := hown.later hb
  refine wpList_appG under_nums32 num32_info rfl (by omega) hgd s x ho base v l.length _ hs hown' _ 1 1 ([z].map (Value.int .u32)) hx (by simp) hr.2 (fun u hu => by obtain ⟨y, _, rfl⟩ := List.mem_map.1 hu; rfl) (by simp only [maxLen]; omega) (by omega) (by simp; omega) fun v' w' h1 h2 h3 => h v' w' ?_ ?_
  · unfold OwnQ; simpa using h1
  · exact (hb.mono hbase).trans ((Chg.of_grown h2).below (by simp; omega) fun i hi e => by have := owns_ge hown' e.symm; omega)
end Go.Proofs.YtadgiekiiicmfaaGreatDoor

/- code's source: what its calls come to. -/
namespace Go.Proofs.YtadgiekiiicmfaaGreatDoor
open Go.RowKit
set_option maxRecDepth 100000
set_option linter.unusedVariables false

theorem numbers_any (x : Int) (w : World) : Calls Tryz.prog 206 #[.int .i64 x] w fun e w' => e = .returned (.int .i64 (nums x)) ∧ w = w' := by
  go_enter Tryz.func206, Tryz.ntmps206
  go_wp2
  all_goals (go_ret; refine ⟨?_, rfl⟩; simp_all [nums])

def holdS (x : Int) (s : St) : St := if valE x = 0 then s else failS (valE x) s
theorem chold_any (g : Nat) (t : TypeId) (tl : RTl) (s : St) (x : Int) (w : World) (h : RdrAt w g t tl s) (h0 : 0 ≤ x) (h1 : x ≤ 255) :
    Calls Tryz.prog 212 #[.pointer (some ⟨g, 0, none⟩), .int .u8 x] w (FailPost g t tl (holdS x s) w) := by
  have HV := Lib.hid (value_any 163 (by simp) x w h0 h1)
  by_cases hx : valE x = 0
  · have HH : Hid (RdrAt w g t tl (holdS x s)) := by unfold Hid holdS; rw [if_pos hx]; exact h
    clear h
    go_enter Tryz.func212, Tryz.ntmps212
    go_wp2_with fail
    refine HV.out.mono ?_
    unfold valT
    rintro e w' ⟨rfl, rfl⟩
    rw [hx]
    go_wp2
    go_end0
    exact ⟨⟨_, rfl⟩, HH.out, Chg.refl _ _⟩
  · have hp : 0 < valE x ∧ valE x ≤ 100 := by rcases valE_cases x with h | h | h <;> omega
    have HF : Hid (Calls Tryz.prog 112 #[.pointer (some ⟨g, 0, none⟩), .int .i64 (valE x)] w (FailPost g t tl (holdS x s) w)) := by
      unfold Hid holdS; rw [if_neg hx]; exact rfail_any g t tl s (valE x) w h hp.1 hp.2
    clear h
    have hne : (valE x != 0) = true := by simpa using hx
    have hdc : decide (valE x = 0) = false := by simpa using hx
    go_enter Tryz.func212, Tryz.ntmps212
    go_wp2_with fail
    refine HV.out.mono ?_
    unfold valT
    rintro e w' ⟨rfl, rfl⟩
    clear hp
    generalize valE x = y at *
    go_wp2_with fail
    refine HF.out.mono ?_
    rintro e w' ⟨⟨u, rfl⟩, h2, hc⟩
    have HC := Lib.hid (And.intro h2 hc)
    clear h2 hc
    go_wp2
    go_end0
    exact ⟨⟨_, rfl⟩, HC.out.1, HC.out.2⟩

theorem zero_key {s : St} {x : Int} (h3 : ∀ a l', bd s pByte = .ok (a, l') → x = a) :
    (x = 0 → nx pZero s = nx pByte s ∧ ∀ a l', bd s pZero = .ok (a, l') → 0 = a) ∧ (x ≠ 0 → nx pZero s = failS 2 (nx pByte s) ∧ ∀ a l', bd s pZero ≠ .ok (a, l')) := by
  cases s with
  | error e => exact ⟨fun _ => ⟨rfl, fun a l' h => by cases h⟩, fun _ => ⟨rfl, fun a l' h => by cases h⟩⟩
  | ok l =>
    simp only [nx_ok, bd_ok, pZero, seq] at h3 ⊢
    cases hp : pByte l with
    | error e => simp [failS]
    | ok r =>
      have := h3 r.1 r.2 (by rw [hp])
      subst this
      refine ⟨fun hx => ?_, fun hx => ?_⟩
      · simp only [bd_ok, hx, if_true]; exact ⟨trivial, fun a l' h => by injection h with h; injection h⟩
      · simp [hx, failS]
set_option maxHeartbeats 1000000 in
theorem cname_any (g : Nat) (t : TypeId) (tl : RTl) (s : St) (op place : Int) (w : World) (h : RdrAt w g t tl s) :
    Calls Tryz.prog 198 #[.pointer (some ⟨g, 0, none⟩), .int .i64 op, .int .i64 place] w (RPost .u32 4294967295 (pNm op place) g t tl s w) := by
  have HH := Lib.hid h
  clear h
  have HN := Lib.hid (numbers_any op w)
  unfold pNm
  by_cases hp : place < nums op
  · have HU := Lib.hid (rU32_any g t tl s w HH.out)
    rw [if_pos hp]
    generalize nums op = y at *
    go_enter Tryz.func198, Tryz.ntmps198
    go_wp2_with (go_at_call 206; refine HN.out.mono ?_; rintro e w' ⟨rfl, rfl⟩)
    refine HU.out.mono ?_
    rintro e w' ⟨x, rfl, h0, h1, h2⟩
    have H2 := Lib.hid h2
    clear h2
    go_wp2
    go_ret
    exact ⟨x, rfl, h0, h1, H2.out⟩
  · have HU := Lib.hid (rbyte_any g t tl s w HH.out)
    rw [if_neg hp]
    generalize nums op = y at *
    go_enter Tryz.func198, Tryz.ntmps198
    go_wp2_with (go_at_call 206; refine HN.out.mono ?_; rintro e w' ⟨rfl, rfl⟩)
    refine HU.out.mono ?_
    rintro e w' ⟨x, rfl, h0, h1, h2, h3, h4⟩
    have HK := Lib.hid (zero_key h3)
    have H2 := Lib.hid (And.intro h2 h4)
    clear h2 h3 h4
    by_cases hx : x = 0
    · subst hx
      go_wp2
      go_ret
      have k := HK.out.1 (by simp)
      exact ⟨0, rfl, by omega, by omega, by rw [k.1]; exact H2.out.1, k.2, H2.out.2⟩
    · have hne : (x != 0) = true := by simpa using hx
      have HF := Lib.hid (rfail_any g t tl _ 2 w' H2.out.1 (by omega) (by omega))
      have HX := Lib.hid hx
      clear hx
      go_wp2_with fail
      refine HF.out.mono ?_
      rintro e w2 ⟨⟨u, rfl⟩, h2, hc⟩
      have HC := Lib.hid (And.intro h2 hc)
      clear h2 hc
      go_wp2
      go_ret
      have k := HK.out.2 HX.out
      exact ⟨0, rfl, by omega, by omega, by rw [k.1]; exact HC.out.1, fun a l' h => (k.2 a l' h).elim, H2.out.2.trans HC.out.2 fun k _ e => e⟩

theorem al_key {s : St} {x : Int} (h3 : ∀ a l', bd s (pU 32) = .ok (a, l') → x = a) :
    (¬ 31 < x → nx pAl s = nx (pU 32) s ∧ ∀ a l', bd s pAl = .ok (a, l') → x = a) ∧ (31 < x → nx pAl s = failS 2 (nx (pU 32) s) ∧ ∀ a l', bd s pAl ≠ .ok (a, l')) := by
  cases s with
  | error e => exact ⟨fun _ => ⟨rfl, fun a l' h => by cases h⟩, fun _ => ⟨rfl, fun a l' h => by cases h⟩⟩
  | ok l =>
    simp only [nx_ok, bd_ok, pAl, seq] at h3 ⊢
    cases hp : pU 32 l with
    | error e => simp [failS]
    | ok r =>
      have := h3 r.1 r.2 (by rw [hp])
      subst this
      refine ⟨fun hx => ?_, fun hx => ?_⟩
      · simp only [bd_ok]; rw [if_neg hx]; exact ⟨rfl, fun a l' h => by injection h with h; injection h⟩
      · simp [hx, failS]
theorem calign_any (g : Nat) (t : TypeId) (tl : RTl) (s : St) (w : World) (h : RdrAt w g t tl s) :
    Calls Tryz.prog 201 #[.pointer (some ⟨g, 0, none⟩)] w (RPost .u32 4294967295 pAl g t tl s w) := by
  have HU := Lib.hid (rU32_any g t tl s w h)
  clear h
  go_enter Tryz.func201, Tryz.ntmps201
  go_wp2_with fail
  refine HU.out.mono ?_
  rintro e w' ⟨x, rfl, h0, h1, h2, h3, h4⟩
  have HK := Lib.hid (al_key h3)
  have H2 := Lib.hid (And.intro h2 h4)
  clear h2 h3 h4
  by_cases hx : 31 < x
  · have HF := Lib.hid (rfail_any g t tl _ 2 w' H2.out.1 (by omega) (by omega))
    go_wp2_with fail
    refine HF.out.mono ?_
    rintro e w2 ⟨⟨u, rfl⟩, h2, hc⟩
    have HC := Lib.hid (And.intro h2 hc)
    clear h2 hc
    go_wp2
    go_ret
    have k := HK.out.2 hx
    exact ⟨x, rfl, h0, h1, by rw [k.1]; exact HC.out.1, fun a l' h => (k.2 a l' h).elim, H2.out.2.trans HC.out.2 fun k _ e => e⟩
  · go_wp2
    go_ret
    have k := HK.out.1 hx
    exact ⟨x, rfl, h0, h1, by rw [k.1]; exact H2.out.1, k.2, H2.out.2⟩
end Go.Proofs.YtadgiekiiicmfaaGreatDoor
