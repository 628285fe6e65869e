/- frame has begun: what each statement of layer 2 asks first. -/
import Derived.Test.YtcblpnojilfidaaFrameCopy
namespace Go.Proofs.Ytcblpnojilfidaa
open Go.RowKit
set_option linter.unusedVariables false

theorem lit_rd (w : World) (l : List Int) (hl : IsBytes l) (cs : Array Value) (hc : cs = (l.map (Value.int .u8)).toArray) : RdX (fun k => k = w.heap.size) (w.alloc (.cells cs 5)) (some ⟨w.heap.size, 0, none⟩) l := by
  subst hc
  refine ⟨hl, fun j u hu => ⟨_, rfl, rfl, ?_⟩⟩
  rw [addPlain, cell_of_row _ _ _ _ _ _ (heap_alloc_new w _)]
  simpa using hu

/-- A Parts of the call's own: all that is its own lies from block B on, and below B all is as it was. -/
def PIn (B : Nat) (w0 w : World) (g : Nat) (v : Value) (l : List Int) (bad : Bool) : Prop := PartsAt w g v l bad ∧ B ≤ g ∧ (∀ k, v.ownBlock = some k → B ≤ k) ∧ Below B w0 w ∧ B ≤ w0.heap.size
theorem PIn.later {B : Nat} {w0 w w' : World} {g : Nat} {v : Value} {l : List Int} {bad : Bool} (h : PIn B w0 w g v l bad) (hc : Below w.heap.size w w') : PIn B w0 w' g v l bad :=
  ⟨h.1.later hc, h.2.1, h.2.2.1, h.2.2.2.1.trans (hc.mono (Nat.le_trans h.2.2.2.2 h.2.2.2.1.size)), h.2.2.2.2⟩
theorem PIn.alloc {B : Nat} {w0 w : World} {g : Nat} {v : Value} {l : List Int} {bad : Bool} (h : PIn B w0 w g v l bad) (o : Obj) : PIn B w0 (w.alloc o) g v l bad := h.later ((Below.refl _ _).alloc (Nat.le_refl _) _)
theorem PIn.new {B : Nat} {w0 w w' : World} (hb : Below B w0 w) (hB : B ≤ w0.heap.size) {e : Ending} (h : NewPost w e w') : e = .returned (.pointer (some ⟨w.heap.size, 0, none⟩)) ∧ PIn B w0 w' w.heap.size (.slice none 0 0) [] false :=
  ⟨h.1, h.2.1, Nat.le_trans hB hb.size, fun k hk => by simp [Value.ownBlock] at hk, hb.trans (h.2.2.1.mono (Nat.le_trans hB hb.size)), hB⟩

def AddIn (B : Nat) (w0 : World) (L : List Int) (R : List (List Int) × List Int × Bool) (E : Int) (g : Nat) (v : Value) (w : World) (e : Ending) (w' : World) : Prop :=
  ∃ f v', e = .returned (.tuple #[f, .int .i64 E]) ∧ OwnL (fun k => w.heap.size ≤ k ∧ v'.ownBlock ≠ some k) w' f R.1 ∧ PIn B w0 w' g v' R.2.1 R.2.2 ∧ Chg (fun k => k = g ∨ v.ownBlock = some k) w w' ∧ ∀ k, v'.ownBlock = some k → v.ownBlock = some k ∨ w.heap.size ≤ k
theorem add_in {X : Nat → Prop} {B : Nat} {w0 : World} (g : Nat) (v : Value) (l news L : List Int) (R : List (List Int) × List Int × Bool) (E : Int) (A : Option Addr) (m c : Nat) (w : World) (hp : PIn B w0 w g v l false) (hr : RdX X w A news) (hm : m = news.length) (hlen : l.length + m ≤ 1000000)
    (hL : l ++ news = L) (hR : fr L = R) (hE : E = if R.2.2 then 4 else 0) :
    Calls Try.prog 9 #[.pointer (some ⟨g, 0, none⟩), .slice A m c] w (AddIn B w0 L R E g v w) := by
  subst hL; subst hR; subst hE
  refine (add_any g v l news A m c w hp.1 hr hm hlen).mono ?_
  rintro e w' ⟨f, v', rfl, hf, hp', hc, hv⟩
  refine ⟨f, v', rfl, hf, ⟨hp', hp.2.1, fun k hk => ?_, hp.2.2.2.1.trans (hc.below (Nat.le_trans hp.2.2.2.2 hp.2.2.2.1.size) fun i hi e => ?_), hp.2.2.2.2⟩, hc, hv⟩
  · rcases hv k hk with h | h
    · exact hp.2.2.1 k h
    · exact Nat.le_trans hp.2.2.2.2 (Nat.le_trans hp.2.2.2.1.size h)
  · rcases e with e | e
    · have := hp.2.1; omega
    · have := hp.2.2.1 i e; omega

set_option maxHeartbeats 1000000 in
theorem begun2_any (w : World) :
    Calls Try.prog 7 #[] w fun e w' => e = .returned (.bool true) ∧ Below w.heap.size w w' := by
  have E := Lib.hid (show fr [0, 1] = ([], [0, 1], false) ∧ fr [0, 1, 7, 0] = ([[7]], [0], false) ∧ enF [7] = [0, 1, 7] from by decide +kernel)
  go_enter Try.func7, Try.ntmps7
  go_wp2_with fail
  refine (new_any w).mono ?_
  intro e w1 h
  obtain ⟨rfl, hp⟩ := PIn.new (Below.refl w.heap.size w) (Nat.le_refl _) h
  generalize hB : w.heap.size = g at hp ⊢
  have HP := Lib.hid hp
  clear hp h
  have HB := Lib.hid hB
  clear hB
  go_wp2_with fail
  refine (add_in g _ [] [0, 1] [0, 1] _ 0 _ 2 2 _ (HP.out.alloc _) (lit_rd w1 [0, 1] (fun z hz => by simp at hz; omega) _ rfl) rfl (by simp) rfl E.out.1 rfl).mono ?_
  rintro e w3 ⟨f, v, rfl, hf, hp, -⟩
  obtain ⟨Af, cf, vs, rfl, -, -, -, -⟩ := hf.rd
  have HP3 := Lib.hid hp
  clear hf hp
  go_wp2_with fail
  refine (add_in g v [0, 1] [7, 0] [0, 1, 7, 0] _ 0 _ 2 2 _ (HP3.out.alloc _) (lit_rd w3 [7, 0] (fun z hz => by simp at hz; omega) _ rfl) rfl (by simp) rfl E.out.2.1 rfl).mono ?_
  rintro e w4 ⟨f2, v2, rfl, hf2, hp4, -⟩
  have hrd := hf2.rd
  obtain ⟨A2, c2, vs2, rfl, -, -, -, -⟩ := hf2.rd
  obtain ⟨b, o, B2, d2, rfl, -, -, hcell, -, -, -⟩ := hrd.at_ (j := 0) (by simp)
  simp only [Nat.add_zero, List.getD_cons_zero] at hcell
  have HP4 := Lib.hid (show PIn g w w4 g v2 [0] false from hp4)
  clear hf2 hp4 hrd HP3 HP
  go_wp2_with fail
  refine (rest_any g v2 [0] false w4 HP4.out.1).mono ?_
  rintro e w5 ⟨rfl, rfl⟩
  go_wp2_with fail
  refine (bad_any g v2 [0] false w4 HP4.out.1).mono ?_
  rintro e w5 ⟨rfl, rfl⟩
  go_wp2_with fail
  refine (put_any2 _ [7] 1 1 _ (lit_rd w4 [7] (fun z hz => by simp at hz; omega) _ rfl).rd rfl (by omega)).mono ?_
  rintro e w5 ⟨v5, rfl, ho, hb⟩
  rw [E.out.2.2] at ho
  obtain ⟨A5, c5, rfl, hr5, hl5⟩ := ho.form (fun z hz => by simp at hz; omega)
  have hs : (convert 27 9 (.slice A5 3 c5)).run Try.prog w5 = .ok (.string (strOfNums [0, 1, 7])) w5 := hr5.string c5
  have hst : ((strOfNums [0, 1, 7]).toList == [0, 1, 7]) = true := by decide +kernel
  have HF : Hid (Below w.heap.size w w5) := by
    have h1 := HP4.out.2.2.2.1
    have h2 := HP4.out.2.2.2.2
    rw [HB.out]
    exact h1.trans ((((Below.refl w4.heap.size w4).alloc (Nat.le_refl _) _).trans (hb.mono (by simp))).mono (Nat.le_trans h2 h1.size))
  clear ho hb hr5
  go_wp2
  go_ret
  exact ⟨rfl, HF.out⟩
end Go.Proofs.Ytcblpnojilfidaa
