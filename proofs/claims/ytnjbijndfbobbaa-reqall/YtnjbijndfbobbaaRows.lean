/-
  No cell of these rows narrows 'for every input' (looked for: loops, veiled, ifaces, maps, wideKeys, modest, calm, conditions, laid).
  DERIVED. THE GIVEN ROWS OF THIS SEAT. 10 by the template 'for every input the law returns true; each argument reads behind the call as it read before'; 0 by the template 'total and deterministic' (their statements: YtnjbijndfbobbaaTotals.lean).
  GIVEN WITH THE SEED: the statements are not yours to turn. If you find one false, say at which input.
  Laid BY PROGRAM, IN A SANDBOX (cutbox-rows.mjs): the forced cells as the released guide's own fill.sh prints them over the translation f4c79d45aac55c92… (all of the seat's roots in one cut). By AI agents, Wed Nov 11 2026. No macro, syntax, notation, axiom, sorry.
-/
import Derived.Test.YtnjbijndfbobbaaChecked
import GoSem.Claim
import GoSem.ClaimJoined
import GoSem.ClaimMapViews
import Derived.JoinedTies
import Derived.KernelRfl
namespace Go.Proofs.Ytnjbijndfbobbaa
/- THE CELL 'sum', in the pinned program and in every row, IS THE sha256 OF THE DUMP (.gsa) THAT YtnjbijndfbobbaaProg.lean LOADS. Nothing in Lean hashes anything: it is a label: what it is worth is what the hold of that sum in a sandbox is worth. -/
noncomputable def Try.pinned : Pinned := { name := "ytnjbijndfbobbaa", sum := "f4c79d45aac55c92f1607eca84895f53323354b21e82afc7709a5a33c7dd7a51", checked := Try.checked }
namespace Rows
def none {H : Type} : Left H := { results := [], args := [] }

/-- 'cloakroomlaw3.ReqAll': WHATEVER THE INPUT: true; the input reads as it did. -/
def reqAllSpec : ChangeSpec := { name := "reqAll", fn := fun _ => fun
  | [d1, d2, d3] => { results := [.lit (.bool true)], args := [d1, d2, d3] }
  | _ => none }
def reqAllRow : OpenClaim := { program := "ytnjbijndfbobbaa", sum := "f4c79d45aac55c92f1607eca84895f53323354b21e82afc7709a5a33c7dd7a51", func := "cloakroom/cloakroomlaw3.ReqAll", spec := "reqAll", unfollowed := true, recurses := true, apart := false }
def ReqAllSaid : Prop := reqAllRow.holds Try.pinned (OpenSpec.ofChange reqAllSpec)

/-- ITS FALSE NEIGHBOUR: 'it returns false'. Refute it at one input. -/
def reqAllWrong : ChangeSpec := { name := "reqAll", fn := fun _ => fun
  | [d1, d2, d3] => { results := [.lit (.bool false)], args := [d1, d2, d3] }
  | _ => none }
def ReqAllWrongFalsely : Prop := reqAllRow.holds Try.pinned (OpenSpec.ofChange reqAllWrong)

/-- 'cloakroomlaw3.ReqBack': WHATEVER THE INPUT: true; the input reads as it did. -/
def reqBackSpec : ChangeSpec := { name := "reqBack", fn := fun _ => fun
  | [d1, d2, d3, d4] => { results := [.lit (.bool true)], args := [d1, d2, d3, d4] }
  | _ => none }
def reqBackRow : OpenClaim := { program := "ytnjbijndfbobbaa", sum := "f4c79d45aac55c92f1607eca84895f53323354b21e82afc7709a5a33c7dd7a51", func := "cloakroom/cloakroomlaw3.ReqBack", spec := "reqBack", unfollowed := true, recurses := true, apart := false }
def ReqBackSaid : Prop := reqBackRow.holds Try.pinned (OpenSpec.ofChange reqBackSpec)

/-- ITS FALSE NEIGHBOUR: 'it returns false'. Refute it at one input. -/
def reqBackWrong : ChangeSpec := { name := "reqBack", fn := fun _ => fun
  | [d1, d2, d3, d4] => { results := [.lit (.bool false)], args := [d1, d2, d3, d4] }
  | _ => none }
def ReqBackWrongFalsely : Prop := reqBackRow.holds Try.pinned (OpenSpec.ofChange reqBackWrong)

/-- 'cloakroomlaw3.ReplyBack': WHATEVER THE INPUT: true; the input reads as it did. -/
def replyBackSpec : ChangeSpec := { name := "replyBack", fn := fun _ => fun
  | [d1, d2, d3] => { results := [.lit (.bool true)], args := [d1, d2, d3] }
  | _ => none }
def replyBackRow : OpenClaim := { program := "ytnjbijndfbobbaa", sum := "f4c79d45aac55c92f1607eca84895f53323354b21e82afc7709a5a33c7dd7a51", func := "cloakroom/cloakroomlaw3.ReplyBack", spec := "replyBack", unfollowed := true, recurses := true, apart := false }
def ReplyBackSaid : Prop := replyBackRow.holds Try.pinned (OpenSpec.ofChange replyBackSpec)

/-- ITS FALSE NEIGHBOUR: 'it returns false'. Refute it at one input. -/
def replyBackWrong : ChangeSpec := { name := "replyBack", fn := fun _ => fun
  | [d1, d2, d3] => { results := [.lit (.bool false)], args := [d1, d2, d3] }
  | _ => none }
def ReplyBackWrongFalsely : Prop := replyBackRow.holds Try.pinned (OpenSpec.ofChange replyBackWrong)

/-- 'cloakroomlaw3.ReqForms': WHATEVER THE INPUT: true; the input reads as it did. -/
def reqFormsSpec : ChangeSpec := { name := "reqForms", fn := fun _ => fun
  | [] => { results := [.lit (.bool true)], args := [] }
  | _ => none }
def reqFormsRow : OpenClaim := { program := "ytnjbijndfbobbaa", sum := "f4c79d45aac55c92f1607eca84895f53323354b21e82afc7709a5a33c7dd7a51", func := "cloakroom/cloakroomlaw3.ReqForms", spec := "reqForms", unfollowed := true, recurses := true, apart := false }
def ReqFormsSaid : Prop := reqFormsRow.holds Try.pinned (OpenSpec.ofChange reqFormsSpec)

/-- ITS FALSE NEIGHBOUR: 'it returns false'. Refute it at one input. -/
def reqFormsWrong : ChangeSpec := { name := "reqForms", fn := fun _ => fun
  | [] => { results := [.lit (.bool false)], args := [] }
  | _ => none }
def ReqFormsWrongFalsely : Prop := reqFormsRow.holds Try.pinned (OpenSpec.ofChange reqFormsWrong)

/-- 'cloakroomlaw3.ReqOne': WHATEVER THE INPUT: true; the input reads as it did. -/
def reqOneSpec : ChangeSpec := { name := "reqOne", fn := fun _ => fun
  | [d1, d2] => { results := [.lit (.bool true)], args := [d1, d2] }
  | _ => none }
def reqOneRow : OpenClaim := { program := "ytnjbijndfbobbaa", sum := "f4c79d45aac55c92f1607eca84895f53323354b21e82afc7709a5a33c7dd7a51", func := "cloakroom/cloakroomlaw3.ReqOne", spec := "reqOne", unfollowed := true, recurses := true, apart := false }
def ReqOneSaid : Prop := reqOneRow.holds Try.pinned (OpenSpec.ofChange reqOneSpec)

/-- ITS FALSE NEIGHBOUR: 'it returns false'. Refute it at one input. -/
def reqOneWrong : ChangeSpec := { name := "reqOne", fn := fun _ => fun
  | [d1, d2] => { results := [.lit (.bool false)], args := [d1, d2] }
  | _ => none }
def ReqOneWrongFalsely : Prop := reqOneRow.holds Try.pinned (OpenSpec.ofChange reqOneWrong)

/-- 'cloakroomlaw4.TypesAll': WHATEVER THE INPUT: true; the input reads as it did. -/
def typesAllSpec : ChangeSpec := { name := "typesAll", fn := fun _ => fun
  | [d1, d2] => { results := [.lit (.bool true)], args := [d1, d2] }
  | _ => none }
def typesAllRow : OpenClaim := { program := "ytnjbijndfbobbaa", sum := "f4c79d45aac55c92f1607eca84895f53323354b21e82afc7709a5a33c7dd7a51", func := "cloakroom/cloakroomlaw4.TypesAll", spec := "typesAll", unfollowed := true, recurses := true, apart := false }
def TypesAllSaid : Prop := typesAllRow.holds Try.pinned (OpenSpec.ofChange typesAllSpec)

/-- ITS FALSE NEIGHBOUR: 'it returns false'. Refute it at one input. -/
def typesAllWrong : ChangeSpec := { name := "typesAll", fn := fun _ => fun
  | [d1, d2] => { results := [.lit (.bool false)], args := [d1, d2] }
  | _ => none }
def TypesAllWrongFalsely : Prop := typesAllRow.holds Try.pinned (OpenSpec.ofChange typesAllWrong)

/-- 'cloakroomlaw4.TypesPuts': WHATEVER THE INPUT: true; the input reads as it did. -/
def typesPutsSpec : ChangeSpec := { name := "typesPuts", fn := fun _ => fun
  | [d1, d2, d3, d4] => { results := [.lit (.bool true)], args := [d1, d2, d3, d4] }
  | _ => none }
def typesPutsRow : OpenClaim := { program := "ytnjbijndfbobbaa", sum := "f4c79d45aac55c92f1607eca84895f53323354b21e82afc7709a5a33c7dd7a51", func := "cloakroom/cloakroomlaw4.TypesPuts", spec := "typesPuts", unfollowed := true, recurses := true, apart := false }
def TypesPutsSaid : Prop := typesPutsRow.holds Try.pinned (OpenSpec.ofChange typesPutsSpec)

/-- ITS FALSE NEIGHBOUR: 'it returns false'. Refute it at one input. -/
def typesPutsWrong : ChangeSpec := { name := "typesPuts", fn := fun _ => fun
  | [d1, d2, d3, d4] => { results := [.lit (.bool false)], args := [d1, d2, d3, d4] }
  | _ => none }
def TypesPutsWrongFalsely : Prop := typesPutsRow.holds Try.pinned (OpenSpec.ofChange typesPutsWrong)

/-- 'cloakroomlaw4.TypesBack': WHATEVER THE INPUT: true; the input reads as it did. -/
def typesBackSpec : ChangeSpec := { name := "typesBack", fn := fun _ => fun
  | [d1, d2, d3, d4] => { results := [.lit (.bool true)], args := [d1, d2, d3, d4] }
  | _ => none }
def typesBackRow : OpenClaim := { program := "ytnjbijndfbobbaa", sum := "f4c79d45aac55c92f1607eca84895f53323354b21e82afc7709a5a33c7dd7a51", func := "cloakroom/cloakroomlaw4.TypesBack", spec := "typesBack", unfollowed := true, recurses := true, apart := false }
def TypesBackSaid : Prop := typesBackRow.holds Try.pinned (OpenSpec.ofChange typesBackSpec)

/-- ITS FALSE NEIGHBOUR: 'it returns false'. Refute it at one input. -/
def typesBackWrong : ChangeSpec := { name := "typesBack", fn := fun _ => fun
  | [d1, d2, d3, d4] => { results := [.lit (.bool false)], args := [d1, d2, d3, d4] }
  | _ => none }
def TypesBackWrongFalsely : Prop := typesBackRow.holds Try.pinned (OpenSpec.ofChange typesBackWrong)

/-- 'cloakroomlaw4.TypesForms': WHATEVER THE INPUT: true; the input reads as it did. -/
def typesFormsSpec : ChangeSpec := { name := "typesForms", fn := fun _ => fun
  | [] => { results := [.lit (.bool true)], args := [] }
  | _ => none }
def typesFormsRow : OpenClaim := { program := "ytnjbijndfbobbaa", sum := "f4c79d45aac55c92f1607eca84895f53323354b21e82afc7709a5a33c7dd7a51", func := "cloakroom/cloakroomlaw4.TypesForms", spec := "typesForms", unfollowed := true, recurses := true, apart := false }
def TypesFormsSaid : Prop := typesFormsRow.holds Try.pinned (OpenSpec.ofChange typesFormsSpec)

/-- ITS FALSE NEIGHBOUR: 'it returns false'. Refute it at one input. -/
def typesFormsWrong : ChangeSpec := { name := "typesForms", fn := fun _ => fun
  | [] => { results := [.lit (.bool false)], args := [] }
  | _ => none }
def TypesFormsWrongFalsely : Prop := typesFormsRow.holds Try.pinned (OpenSpec.ofChange typesFormsWrong)

/-- 'cloakroomlaw4.TypesOne': WHATEVER THE INPUT: true; the input reads as it did. -/
def typesOneSpec : ChangeSpec := { name := "typesOne", fn := fun _ => fun
  | [d1, d2, d3, d4] => { results := [.lit (.bool true)], args := [d1, d2, d3, d4] }
  | _ => none }
def typesOneRow : OpenClaim := { program := "ytnjbijndfbobbaa", sum := "f4c79d45aac55c92f1607eca84895f53323354b21e82afc7709a5a33c7dd7a51", func := "cloakroom/cloakroomlaw4.TypesOne", spec := "typesOne", unfollowed := true, recurses := true, apart := false }
def TypesOneSaid : Prop := typesOneRow.holds Try.pinned (OpenSpec.ofChange typesOneSpec)

/-- ITS FALSE NEIGHBOUR: 'it returns false'. Refute it at one input. -/
def typesOneWrong : ChangeSpec := { name := "typesOne", fn := fun _ => fun
  | [d1, d2, d3, d4] => { results := [.lit (.bool false)], args := [d1, d2, d3, d4] }
  | _ => none }
def TypesOneWrongFalsely : Prop := typesOneRow.holds Try.pinned (OpenSpec.ofChange typesOneWrong)

/- THE SECOND FORM. 'bulk': how many values and letters a reading holds, each counted each time it is reached (what is shared counts as often as it is met; a slice's spare places count too). A statement '..UptoSaid' is the law's where the arguments, and the package variables that the reading takes, are together of bulk at most 1048576: NARROWER than '..Said'. Prove '..Said' where nothing that the law and all that it calls make is longer than what came in: it says more and counts as full. Else prove '..UptoSaid'. A law counts once. -/
mutual
def uptoBulk {H : Type} : DataW H → Nat
  | .lit (.string bytes) => bytes.length + 1
  | .lit _ => 1
  | .nil => 1
  | .ptr d => uptoBulk d + 1
  | .slice elems spare => uptoBulkAll elems + uptoBulkAll spare + 1
  | .agg parts => uptoBulkAll parts + 1
  | .iface _ d => uptoBulk d + 1
  | .map entries => uptoBulkEntries entries + 1
  | .held _ => 1
def uptoBulkAll {H : Type} : List (DataW H) → Nat
  | [] => 0
  | d :: r => uptoBulk d + uptoBulkAll r
def uptoBulkEntries {H : Type} : List (Lit × DataW H) → Nat
  | [] => 0
  | x :: r => uptoBulkEntry x + uptoBulkEntries r
def uptoBulkEntry {H : Type} : Lit × DataW H → Nat
  | (.string bytes, d) => bytes.length + uptoBulk d + 1
  | (_, d) => uptoBulk d + 1
 end
def uptoSmall : (H : Type) → List (DataW H) → Bool := fun _ ds => decide (uptoBulkAll ds ≤ 1048576)
def OpenSpec.upto (s : _root_.Go.ChangeSpec) : _root_.Go.OpenSpec := { _root_.Go.OpenSpec.ofChange s with cond := some uptoSmall }

/-- 'cloakroomlaw3.ReqAll', WHERE WHAT IT READS IS OF BULK AT MOST 1048576: true; the input reads as it did. -/
def reqAllUptoRow : OpenClaim := { program := "ytnjbijndfbobbaa", sum := "f4c79d45aac55c92f1607eca84895f53323354b21e82afc7709a5a33c7dd7a51", func := "cloakroom/cloakroomlaw3.ReqAll", spec := "reqAll", unfollowed := true, recurses := true, apart := false, narrowed := true }
def ReqAllUptoSaid : Prop := reqAllUptoRow.holds Try.pinned (OpenSpec.upto reqAllSpec)

/-- 'cloakroomlaw3.ReqBack', WHERE WHAT IT READS IS OF BULK AT MOST 1048576: true; the input reads as it did. -/
def reqBackUptoRow : OpenClaim := { program := "ytnjbijndfbobbaa", sum := "f4c79d45aac55c92f1607eca84895f53323354b21e82afc7709a5a33c7dd7a51", func := "cloakroom/cloakroomlaw3.ReqBack", spec := "reqBack", unfollowed := true, recurses := true, apart := false, narrowed := true }
def ReqBackUptoSaid : Prop := reqBackUptoRow.holds Try.pinned (OpenSpec.upto reqBackSpec)

/-- 'cloakroomlaw3.ReplyBack', WHERE WHAT IT READS IS OF BULK AT MOST 1048576: true; the input reads as it did. -/
def replyBackUptoRow : OpenClaim := { program := "ytnjbijndfbobbaa", sum := "f4c79d45aac55c92f1607eca84895f53323354b21e82afc7709a5a33c7dd7a51", func := "cloakroom/cloakroomlaw3.ReplyBack", spec := "replyBack", unfollowed := true, recurses := true, apart := false, narrowed := true }
def ReplyBackUptoSaid : Prop := replyBackUptoRow.holds Try.pinned (OpenSpec.upto replyBackSpec)

/-- 'cloakroomlaw3.ReqForms', WHERE WHAT IT READS IS OF BULK AT MOST 1048576: true; the input reads as it did. -/
def reqFormsUptoRow : OpenClaim := { program := "ytnjbijndfbobbaa", sum := "f4c79d45aac55c92f1607eca84895f53323354b21e82afc7709a5a33c7dd7a51", func := "cloakroom/cloakroomlaw3.ReqForms", spec := "reqForms", unfollowed := true, recurses := true, apart := false, narrowed := true }
def ReqFormsUptoSaid : Prop := reqFormsUptoRow.holds Try.pinned (OpenSpec.upto reqFormsSpec)

/-- 'cloakroomlaw3.ReqOne', WHERE WHAT IT READS IS OF BULK AT MOST 1048576: true; the input reads as it did. -/
def reqOneUptoRow : OpenClaim := { program := "ytnjbijndfbobbaa", sum := "f4c79d45aac55c92f1607eca84895f53323354b21e82afc7709a5a33c7dd7a51", func := "cloakroom/cloakroomlaw3.ReqOne", spec := "reqOne", unfollowed := true, recurses := true, apart := false, narrowed := true }
def ReqOneUptoSaid : Prop := reqOneUptoRow.holds Try.pinned (OpenSpec.upto reqOneSpec)

/-- 'cloakroomlaw4.TypesAll', WHERE WHAT IT READS IS OF BULK AT MOST 1048576: true; the input reads as it did. -/
def typesAllUptoRow : OpenClaim := { program := "ytnjbijndfbobbaa", sum := "f4c79d45aac55c92f1607eca84895f53323354b21e82afc7709a5a33c7dd7a51", func := "cloakroom/cloakroomlaw4.TypesAll", spec := "typesAll", unfollowed := true, recurses := true, apart := false, narrowed := true }
def TypesAllUptoSaid : Prop := typesAllUptoRow.holds Try.pinned (OpenSpec.upto typesAllSpec)

/-- 'cloakroomlaw4.TypesPuts', WHERE WHAT IT READS IS OF BULK AT MOST 1048576: true; the input reads as it did. -/
def typesPutsUptoRow : OpenClaim := { program := "ytnjbijndfbobbaa", sum := "f4c79d45aac55c92f1607eca84895f53323354b21e82afc7709a5a33c7dd7a51", func := "cloakroom/cloakroomlaw4.TypesPuts", spec := "typesPuts", unfollowed := true, recurses := true, apart := false, narrowed := true }
def TypesPutsUptoSaid : Prop := typesPutsUptoRow.holds Try.pinned (OpenSpec.upto typesPutsSpec)

/-- 'cloakroomlaw4.TypesBack', WHERE WHAT IT READS IS OF BULK AT MOST 1048576: true; the input reads as it did. -/
def typesBackUptoRow : OpenClaim := { program := "ytnjbijndfbobbaa", sum := "f4c79d45aac55c92f1607eca84895f53323354b21e82afc7709a5a33c7dd7a51", func := "cloakroom/cloakroomlaw4.TypesBack", spec := "typesBack", unfollowed := true, recurses := true, apart := false, narrowed := true }
def TypesBackUptoSaid : Prop := typesBackUptoRow.holds Try.pinned (OpenSpec.upto typesBackSpec)

/-- 'cloakroomlaw4.TypesForms', WHERE WHAT IT READS IS OF BULK AT MOST 1048576: true; the input reads as it did. -/
def typesFormsUptoRow : OpenClaim := { program := "ytnjbijndfbobbaa", sum := "f4c79d45aac55c92f1607eca84895f53323354b21e82afc7709a5a33c7dd7a51", func := "cloakroom/cloakroomlaw4.TypesForms", spec := "typesForms", unfollowed := true, recurses := true, apart := false, narrowed := true }
def TypesFormsUptoSaid : Prop := typesFormsUptoRow.holds Try.pinned (OpenSpec.upto typesFormsSpec)

/-- 'cloakroomlaw4.TypesOne', WHERE WHAT IT READS IS OF BULK AT MOST 1048576: true; the input reads as it did. -/
def typesOneUptoRow : OpenClaim := { program := "ytnjbijndfbobbaa", sum := "f4c79d45aac55c92f1607eca84895f53323354b21e82afc7709a5a33c7dd7a51", func := "cloakroom/cloakroomlaw4.TypesOne", spec := "typesOne", unfollowed := true, recurses := true, apart := false, narrowed := true }
def TypesOneUptoSaid : Prop := typesOneUptoRow.holds Try.pinned (OpenSpec.upto typesOneSpec)

end Rows
end Go.Proofs.Ytnjbijndfbobbaa
