/-
  No cell of these rows narrows 'for every input' (looked for: loops, veiled, ifaces, maps, wideKeys, modest, calm, conditions, laid).
  DERIVED. THE GIVEN ROWS OF THIS SEAT. 4 by the template 'for every input the law returns true; each argument reads behind the call as it read before'; 0 by the template 'total and deterministic' (their statements: YtfmncljcogijhaaTotals.lean).
  GIVEN WITH THE SEED: the statements are not yours to turn. If you find one false, say at which input.
  Laid BY PROGRAM, IN A SANDBOX (cutbox-rows.mjs): the forced cells as the released guide's own fill.sh prints them over the translation 9f9a321ce67bedfa… (all of the seat's roots in one cut). By AI agents, Wed Nov 11 2026. No macro, syntax, notation, axiom, sorry.
-/
import Derived.Test.YtfmncljcogijhaaChecked
import GoSem.Claim
import GoSem.ClaimJoined
import GoSem.ClaimMapViews
import Derived.JoinedTies
import Derived.KernelRfl
namespace Go.Proofs.Ytfmncljcogijhaa
/- THE CELL 'sum', in the pinned program and in every row, IS THE sha256 OF THE DUMP (.gsa) THAT YtfmncljcogijhaaProg.lean LOADS. Nothing in Lean hashes anything: it is a label: what it is worth is what the hold of that sum in a sandbox is worth. -/
noncomputable def Try.pinned : Pinned := { name := "ytfmncljcogijhaa", sum := "9f9a321ce67bedfab500cff65d710bde4c1d9ea1a72eb97eca1fd96c7d501690", checked := Try.checked }
namespace Rows
def none {H : Type} : Left H := { results := [], args := [] }

/-- 'cloakroomlaw10.CtrlAll': WHATEVER THE INPUT: true; the input reads as it did. -/
def ctrlAllSpec : ChangeSpec := { name := "ctrlAll", fn := fun _ => fun
  | [d] => { results := [.lit (.bool true)], args := [d] }
  | _ => none }
def ctrlAllRow : OpenClaim := { program := "ytfmncljcogijhaa", sum := "9f9a321ce67bedfab500cff65d710bde4c1d9ea1a72eb97eca1fd96c7d501690", func := "cloakroom/cloakroomlaw10.CtrlAll", spec := "ctrlAll", apart := false }
def CtrlAllSaid : Prop := ctrlAllRow.holds Try.pinned (OpenSpec.ofChange ctrlAllSpec)

/-- ITS FALSE NEIGHBOUR: 'it returns false'. Refute it at one input. -/
def ctrlAllWrong : ChangeSpec := { name := "ctrlAll", fn := fun _ => fun
  | [d] => { results := [.lit (.bool false)], args := [d] }
  | _ => none }
def CtrlAllWrongFalsely : Prop := ctrlAllRow.holds Try.pinned (OpenSpec.ofChange ctrlAllWrong)

/-- 'cloakroomlaw10.CtrlMade': WHATEVER THE INPUT: true; the input reads as it did. -/
def ctrlMadeSpec : ChangeSpec := { name := "ctrlMade", fn := fun _ => fun
  | [d] => { results := [.lit (.bool true)], args := [d] }
  | _ => none }
def ctrlMadeRow : OpenClaim := { program := "ytfmncljcogijhaa", sum := "9f9a321ce67bedfab500cff65d710bde4c1d9ea1a72eb97eca1fd96c7d501690", func := "cloakroom/cloakroomlaw10.CtrlMade", spec := "ctrlMade", recurses := true, apart := false }
def CtrlMadeSaid : Prop := ctrlMadeRow.holds Try.pinned (OpenSpec.ofChange ctrlMadeSpec)

/-- ITS FALSE NEIGHBOUR: 'it returns false'. Refute it at one input. -/
def ctrlMadeWrong : ChangeSpec := { name := "ctrlMade", fn := fun _ => fun
  | [d] => { results := [.lit (.bool false)], args := [d] }
  | _ => none }
def CtrlMadeWrongFalsely : Prop := ctrlMadeRow.holds Try.pinned (OpenSpec.ofChange ctrlMadeWrong)

/-- 'cloakroomlaw10.CtrlNest': WHATEVER THE INPUT: true; the input reads as it did. -/
def ctrlNestSpec : ChangeSpec := { name := "ctrlNest", fn := fun _ => fun
  | [d] => { results := [.lit (.bool true)], args := [d] }
  | _ => none }
def ctrlNestRow : OpenClaim := { program := "ytfmncljcogijhaa", sum := "9f9a321ce67bedfab500cff65d710bde4c1d9ea1a72eb97eca1fd96c7d501690", func := "cloakroom/cloakroomlaw10.CtrlNest", spec := "ctrlNest", recurses := true, apart := false }
def CtrlNestSaid : Prop := ctrlNestRow.holds Try.pinned (OpenSpec.ofChange ctrlNestSpec)

/-- ITS FALSE NEIGHBOUR: 'it returns false'. Refute it at one input. -/
def ctrlNestWrong : ChangeSpec := { name := "ctrlNest", fn := fun _ => fun
  | [d] => { results := [.lit (.bool false)], args := [d] }
  | _ => none }
def CtrlNestWrongFalsely : Prop := ctrlNestRow.holds Try.pinned (OpenSpec.ofChange ctrlNestWrong)

/-- 'cloakroomlaw10.CtrlForms': WHATEVER THE INPUT: true; the input reads as it did. -/
def ctrlFormsSpec : ChangeSpec := { name := "ctrlForms", fn := fun _ => fun
  | [] => { results := [.lit (.bool true)], args := [] }
  | _ => none }
def ctrlFormsRow : OpenClaim := { program := "ytfmncljcogijhaa", sum := "9f9a321ce67bedfab500cff65d710bde4c1d9ea1a72eb97eca1fd96c7d501690", func := "cloakroom/cloakroomlaw10.CtrlForms", spec := "ctrlForms", apart := false }
def CtrlFormsSaid : Prop := ctrlFormsRow.holds Try.pinned (OpenSpec.ofChange ctrlFormsSpec)

/-- ITS FALSE NEIGHBOUR: 'it returns false'. Refute it at one input. -/
def ctrlFormsWrong : ChangeSpec := { name := "ctrlForms", fn := fun _ => fun
  | [] => { results := [.lit (.bool false)], args := [] }
  | _ => none }
def CtrlFormsWrongFalsely : Prop := ctrlFormsRow.holds Try.pinned (OpenSpec.ofChange ctrlFormsWrong)

/- THE SECOND FORM. 'bulk': how many values and letters a reading holds, each counted each time it is reached (what is shared counts as often as it is met; a slice's spare places count too). A statement '..UptoSaid' is the law's where the arguments, and the package variables that the reading takes, are together of bulk at most 1048576: NARROWER than '..Said'. Prove '..Said' where nothing that the law and all that it calls make is longer than what came in: it says more and counts as full. Else prove '..UptoSaid'. A law counts once. -/
mutual
def uptoBulk {H : Type} : DataW H → Nat
  | .lit (.string bytes) => bytes.length + 1
  | .lit _ => 1
  | .nil => 1
  | .ptr d => uptoBulk d + 1
  | .slice elems spare => uptoBulkAll elems + uptoBulkAll spare + 1
  | .agg parts => uptoBulkAll parts + 1
  | .iface _ d => uptoBulk d + 1
  | .map entries => uptoBulkEntries entries + 1
  | .held _ => 1
def uptoBulkAll {H : Type} : List (DataW H) → Nat
  | [] => 0
  | d :: r => uptoBulk d + uptoBulkAll r
def uptoBulkEntries {H : Type} : List (Lit × DataW H) → Nat
  | [] => 0
  | x :: r => uptoBulkEntry x + uptoBulkEntries r
def uptoBulkEntry {H : Type} : Lit × DataW H → Nat
  | (.string bytes, d) => bytes.length + uptoBulk d + 1
  | (_, d) => uptoBulk d + 1
 end
def uptoSmall : (H : Type) → List (DataW H) → Bool := fun _ ds => decide (uptoBulkAll ds ≤ 1048576)
def OpenSpec.upto (s : _root_.Go.ChangeSpec) : _root_.Go.OpenSpec := { _root_.Go.OpenSpec.ofChange s with cond := some uptoSmall }

/-- 'cloakroomlaw10.CtrlAll', WHERE WHAT IT READS IS OF BULK AT MOST 1048576: true; the input reads as it did. -/
def ctrlAllUptoRow : OpenClaim := { program := "ytfmncljcogijhaa", sum := "9f9a321ce67bedfab500cff65d710bde4c1d9ea1a72eb97eca1fd96c7d501690", func := "cloakroom/cloakroomlaw10.CtrlAll", spec := "ctrlAll", apart := false, narrowed := true }
def CtrlAllUptoSaid : Prop := ctrlAllUptoRow.holds Try.pinned (OpenSpec.upto ctrlAllSpec)

/-- 'cloakroomlaw10.CtrlMade', WHERE WHAT IT READS IS OF BULK AT MOST 1048576: true; the input reads as it did. -/
def ctrlMadeUptoRow : OpenClaim := { program := "ytfmncljcogijhaa", sum := "9f9a321ce67bedfab500cff65d710bde4c1d9ea1a72eb97eca1fd96c7d501690", func := "cloakroom/cloakroomlaw10.CtrlMade", spec := "ctrlMade", recurses := true, apart := false, narrowed := true }
def CtrlMadeUptoSaid : Prop := ctrlMadeUptoRow.holds Try.pinned (OpenSpec.upto ctrlMadeSpec)

/-- 'cloakroomlaw10.CtrlNest', WHERE WHAT IT READS IS OF BULK AT MOST 1048576: true; the input reads as it did. -/
def ctrlNestUptoRow : OpenClaim := { program := "ytfmncljcogijhaa", sum := "9f9a321ce67bedfab500cff65d710bde4c1d9ea1a72eb97eca1fd96c7d501690", func := "cloakroom/cloakroomlaw10.CtrlNest", spec := "ctrlNest", recurses := true, apart := false, narrowed := true }
def CtrlNestUptoSaid : Prop := ctrlNestUptoRow.holds Try.pinned (OpenSpec.upto ctrlNestSpec)

/-- 'cloakroomlaw10.CtrlForms', WHERE WHAT IT READS IS OF BULK AT MOST 1048576: true; the input reads as it did. -/
def ctrlFormsUptoRow : OpenClaim := { program := "ytfmncljcogijhaa", sum := "9f9a321ce67bedfab500cff65d710bde4c1d9ea1a72eb97eca1fd96c7d501690", func := "cloakroom/cloakroomlaw10.CtrlForms", spec := "ctrlForms", apart := false, narrowed := true }
def CtrlFormsUptoSaid : Prop := ctrlFormsUptoRow.holds Try.pinned (OpenSpec.upto ctrlFormsSpec)

end Rows
end Go.Proofs.Ytfmncljcogijhaa
