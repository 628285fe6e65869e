/-
  No cell of these rows narrows 'for every input' (looked for: loops, veiled, ifaces, maps, wideKeys, modest, calm, conditions, laid).
  DERIVED. THE GIVEN ROWS OF THIS SEAT. 4 by the template 'for every input the law returns true; each argument reads behind the call as it read before'; 0 by the template 'total and deterministic' (their statements: YtonkcfnegnghcaaTotals.lean).
  GIVEN WITH THE SEED: the statements are not yours to turn. If you find one false, say at which input.
  Laid BY PROGRAM, IN A SANDBOX (cutbox-rows.mjs): the forced cells as the released guide's own fill.sh prints them over the translation 5e767fcafd499692… (all of the seat's roots in one cut). By AI agents, Wed Nov 11 2026. No macro, syntax, notation, axiom, sorry.
-/
import Derived.Test.YtonkcfnegnghcaaChecked
import GoSem.Claim
import GoSem.ClaimJoined
import GoSem.ClaimMapViews
import Derived.JoinedTies
import Derived.KernelRfl
namespace Go.Proofs.Ytonkcfnegnghcaa
/- THE CELL 'sum', in the pinned program and in every row, IS THE sha256 OF THE DUMP (.gsa) THAT YtonkcfnegnghcaaProg.lean LOADS. Nothing in Lean hashes anything: it is a label: what it is worth is what the hold of that sum in a sandbox is worth. -/
noncomputable def Try.pinned : Pinned := { name := "ytonkcfnegnghcaa", sum := "5e767fcafd4996928e447d2f5ccce38bda2a6130b64c1d69d34a2c0840adfc76", checked := Try.checked }
namespace Rows
def none {H : Type} : Left H := { results := [], args := [] }

/-- 'cloakroomlaw5.OpAll': WHATEVER THE INPUT: true; the input reads as it did. -/
def opAllSpec : ChangeSpec := { name := "opAll", fn := fun _ => fun
  | [d] => { results := [.lit (.bool true)], args := [d] }
  | _ => none }
def opAllRow : OpenClaim := { program := "ytonkcfnegnghcaa", sum := "5e767fcafd4996928e447d2f5ccce38bda2a6130b64c1d69d34a2c0840adfc76", func := "cloakroom/cloakroomlaw5.OpAll", spec := "opAll", apart := false }
def OpAllSaid : Prop := opAllRow.holds Try.pinned (OpenSpec.ofChange opAllSpec)

/-- ITS FALSE NEIGHBOUR: 'it returns false'. Refute it at one input. -/
def opAllWrong : ChangeSpec := { name := "opAll", fn := fun _ => fun
  | [d] => { results := [.lit (.bool false)], args := [d] }
  | _ => none }
def OpAllWrongFalsely : Prop := opAllRow.holds Try.pinned (OpenSpec.ofChange opAllWrong)

/-- 'cloakroomlaw5.OpNames': WHATEVER THE INPUT: true; the input reads as it did. -/
def opNamesSpec : ChangeSpec := { name := "opNames", fn := fun _ => fun
  | [] => { results := [.lit (.bool true)], args := [] }
  | _ => none }
def opNamesRow : OpenClaim := { program := "ytonkcfnegnghcaa", sum := "5e767fcafd4996928e447d2f5ccce38bda2a6130b64c1d69d34a2c0840adfc76", func := "cloakroom/cloakroomlaw5.OpNames", spec := "opNames", apart := false }
def OpNamesSaid : Prop := opNamesRow.holds Try.pinned (OpenSpec.ofChange opNamesSpec)

/-- ITS FALSE NEIGHBOUR: 'it returns false'. Refute it at one input. -/
def opNamesWrong : ChangeSpec := { name := "opNames", fn := fun _ => fun
  | [] => { results := [.lit (.bool false)], args := [] }
  | _ => none }
def OpNamesWrongFalsely : Prop := opNamesRow.holds Try.pinned (OpenSpec.ofChange opNamesWrong)

/-- 'cloakroomlaw5.OpWidths': WHATEVER THE INPUT: true; the input reads as it did. -/
def opWidthsSpec : ChangeSpec := { name := "opWidths", fn := fun _ => fun
  | [] => { results := [.lit (.bool true)], args := [] }
  | _ => none }
def opWidthsRow : OpenClaim := { program := "ytonkcfnegnghcaa", sum := "5e767fcafd4996928e447d2f5ccce38bda2a6130b64c1d69d34a2c0840adfc76", func := "cloakroom/cloakroomlaw5.OpWidths", spec := "opWidths", apart := false }
def OpWidthsSaid : Prop := opWidthsRow.holds Try.pinned (OpenSpec.ofChange opWidthsSpec)

/-- ITS FALSE NEIGHBOUR: 'it returns false'. Refute it at one input. -/
def opWidthsWrong : ChangeSpec := { name := "opWidths", fn := fun _ => fun
  | [] => { results := [.lit (.bool false)], args := [] }
  | _ => none }
def OpWidthsWrongFalsely : Prop := opWidthsRow.holds Try.pinned (OpenSpec.ofChange opWidthsWrong)

/-- 'cloakroomlaw5.OpForms': WHATEVER THE INPUT: true; the input reads as it did. -/
def opFormsSpec : ChangeSpec := { name := "opForms", fn := fun _ => fun
  | [] => { results := [.lit (.bool true)], args := [] }
  | _ => none }
def opFormsRow : OpenClaim := { program := "ytonkcfnegnghcaa", sum := "5e767fcafd4996928e447d2f5ccce38bda2a6130b64c1d69d34a2c0840adfc76", func := "cloakroom/cloakroomlaw5.OpForms", spec := "opForms", apart := false }
def OpFormsSaid : Prop := opFormsRow.holds Try.pinned (OpenSpec.ofChange opFormsSpec)

/-- ITS FALSE NEIGHBOUR: 'it returns false'. Refute it at one input. -/
def opFormsWrong : ChangeSpec := { name := "opForms", fn := fun _ => fun
  | [] => { results := [.lit (.bool false)], args := [] }
  | _ => none }
def OpFormsWrongFalsely : Prop := opFormsRow.holds Try.pinned (OpenSpec.ofChange opFormsWrong)

/- THE SECOND FORM. 'bulk': how many values and letters a reading holds, each counted each time it is reached (what is shared counts as often as it is met; a slice's spare places count too). A statement '..UptoSaid' is the law's where the arguments, and the package variables that the reading takes, are together of bulk at most 1048576: NARROWER than '..Said'. Prove '..Said' where nothing that the law and all that it calls make is longer than what came in: it says more and counts as full. Else prove '..UptoSaid'. A law counts once. -/
mutual
def uptoBulk {H : Type} : DataW H → Nat
  | .lit (.string bytes) => bytes.length + 1
  | .lit _ => 1
  | .nil => 1
  | .ptr d => uptoBulk d + 1
  | .slice elems spare => uptoBulkAll elems + uptoBulkAll spare + 1
  | .agg parts => uptoBulkAll parts + 1
  | .iface _ d => uptoBulk d + 1
  | .map entries => uptoBulkEntries entries + 1
  | .held _ => 1
def uptoBulkAll {H : Type} : List (DataW H) → Nat
  | [] => 0
  | d :: r => uptoBulk d + uptoBulkAll r
def uptoBulkEntries {H : Type} : List (Lit × DataW H) → Nat
  | [] => 0
  | x :: r => uptoBulkEntry x + uptoBulkEntries r
def uptoBulkEntry {H : Type} : Lit × DataW H → Nat
  | (.string bytes, d) => bytes.length + uptoBulk d + 1
  | (_, d) => uptoBulk d + 1
 end
def uptoSmall : (H : Type) → List (DataW H) → Bool := fun _ ds => decide (uptoBulkAll ds ≤ 1048576)
def OpenSpec.upto (s : _root_.Go.ChangeSpec) : _root_.Go.OpenSpec := { _root_.Go.OpenSpec.ofChange s with cond := some uptoSmall }

/-- 'cloakroomlaw5.OpAll', WHERE WHAT IT READS IS OF BULK AT MOST 1048576: true; the input reads as it did. -/
def opAllUptoRow : OpenClaim := { program := "ytonkcfnegnghcaa", sum := "5e767fcafd4996928e447d2f5ccce38bda2a6130b64c1d69d34a2c0840adfc76", func := "cloakroom/cloakroomlaw5.OpAll", spec := "opAll", apart := false, narrowed := true }
def OpAllUptoSaid : Prop := opAllUptoRow.holds Try.pinned (OpenSpec.upto opAllSpec)

/-- 'cloakroomlaw5.OpNames', WHERE WHAT IT READS IS OF BULK AT MOST 1048576: true; the input reads as it did. -/
def opNamesUptoRow : OpenClaim := { program := "ytonkcfnegnghcaa", sum := "5e767fcafd4996928e447d2f5ccce38bda2a6130b64c1d69d34a2c0840adfc76", func := "cloakroom/cloakroomlaw5.OpNames", spec := "opNames", apart := false, narrowed := true }
def OpNamesUptoSaid : Prop := opNamesUptoRow.holds Try.pinned (OpenSpec.upto opNamesSpec)

/-- 'cloakroomlaw5.OpWidths', WHERE WHAT IT READS IS OF BULK AT MOST 1048576: true; the input reads as it did. -/
def opWidthsUptoRow : OpenClaim := { program := "ytonkcfnegnghcaa", sum := "5e767fcafd4996928e447d2f5ccce38bda2a6130b64c1d69d34a2c0840adfc76", func := "cloakroom/cloakroomlaw5.OpWidths", spec := "opWidths", apart := false, narrowed := true }
def OpWidthsUptoSaid : Prop := opWidthsUptoRow.holds Try.pinned (OpenSpec.upto opWidthsSpec)

/-- 'cloakroomlaw5.OpForms', WHERE WHAT IT READS IS OF BULK AT MOST 1048576: true; the input reads as it did. -/
def opFormsUptoRow : OpenClaim := { program := "ytonkcfnegnghcaa", sum := "5e767fcafd4996928e447d2f5ccce38bda2a6130b64c1d69d34a2c0840adfc76", func := "cloakroom/cloakroomlaw5.OpForms", spec := "opForms", apart := false, narrowed := true }
def OpFormsUptoSaid : Prop := opFormsUptoRow.holds Try.pinned (OpenSpec.upto opFormsSpec)

end Rows
end Go.Proofs.Ytonkcfnegnghcaa
