/-
  NARROWER THAN 'FOR EVERY INPUT', by the rows' own cells (each row's printed sentence says how): TypesSigs: loops.
  DERIVED. THE GIVEN ROWS OF THIS SEAT. 3 by the template 'for every input the law returns true; each argument reads behind the call as it read before'; 0 by the template 'total and deterministic' (their statements: YtbhgbgaeaejnhaaTotals.lean).
  GIVEN WITH THE SEED: the statements are not yours to turn. If you find one false, say at which input.
  Laid BY PROGRAM, IN A SANDBOX (cutbox-rows.mjs): the forced cells as the released guide's own fill.sh prints them over the translation b5ed31600a693980… (all of the seat's roots in one cut). By AI agents, Wed Nov 11 2026. No macro, syntax, notation, axiom, sorry.
-/
import Derived.Test.YtbhgbgaeaejnhaaChecked
import GoSem.Claim
import GoSem.ClaimJoined
import GoSem.ClaimMapViews
import Derived.JoinedTies
import Derived.KernelRfl
namespace Go.Proofs.Ytbhgbgaeaejnhaa
/- THE CELL 'sum', in the pinned program and in every row, IS THE sha256 OF THE DUMP (.gsa) THAT YtbhgbgaeaejnhaaProg.lean LOADS. Nothing in Lean hashes anything: it is a label: what it is worth is what the hold of that sum in a sandbox is worth. -/
noncomputable def Try.pinned : Pinned := { name := "ytbhgbgaeaejnhaa", sum := "b5ed31600a693980574c5bbe1966df6a4a55cc43c0aeda6de3b03c8bcfea93e4", checked := Try.checked }
namespace Rows
def none {H : Type} : Left H := { results := [], args := [] }

/-- 'treadmilllaw12.TypesSigs': WHATEVER THE INPUT: true; the input reads as it did. -/
def typesSigsSpec : ChangeSpec := { name := "typesSigs", fn := fun _ => fun
  | [d1, d2, d3, d4] => { results := [.lit (.bool true)], args := [d1, d2, d3, d4] }
  | _ => none }
def typesSigsRow : OpenClaim := { program := "ytbhgbgaeaejnhaa", sum := "b5ed31600a693980574c5bbe1966df6a4a55cc43c0aeda6de3b03c8bcfea93e4", func := "treadmill/treadmilllaw12.TypesSigs", spec := "typesSigs", inPlace := ["internal/bytealg.abigen_runtime_cmpstring"], unfollowed := true, recurses := true, loops := true, apart := false }
def TypesSigsSaid : Prop := typesSigsRow.holds Try.pinned (OpenSpec.ofChange typesSigsSpec)

/-- ITS FALSE NEIGHBOUR: 'it returns false'. Refute it at one input. -/
def typesSigsWrong : ChangeSpec := { name := "typesSigs", fn := fun _ => fun
  | [d1, d2, d3, d4] => { results := [.lit (.bool false)], args := [d1, d2, d3, d4] }
  | _ => none }
def TypesSigsWrongFalsely : Prop := typesSigsRow.holds Try.pinned (OpenSpec.ofChange typesSigsWrong)

/-- 'treadmilllaw12.TypesScopes': WHATEVER THE INPUT: true; the input reads as it did. -/
def typesScopesSpec : ChangeSpec := { name := "typesScopes", fn := fun _ => fun
  | [d] => { results := [.lit (.bool true)], args := [d] }
  | _ => none }
def typesScopesRow : OpenClaim := { program := "ytbhgbgaeaejnhaa", sum := "b5ed31600a693980574c5bbe1966df6a4a55cc43c0aeda6de3b03c8bcfea93e4", func := "treadmill/treadmilllaw12.TypesScopes", spec := "typesScopes", apart := false }
def TypesScopesSaid : Prop := typesScopesRow.holds Try.pinned (OpenSpec.ofChange typesScopesSpec)

/-- ITS FALSE NEIGHBOUR: 'it returns false'. Refute it at one input. -/
def typesScopesWrong : ChangeSpec := { name := "typesScopes", fn := fun _ => fun
  | [d] => { results := [.lit (.bool false)], args := [d] }
  | _ => none }
def TypesScopesWrongFalsely : Prop := typesScopesRow.holds Try.pinned (OpenSpec.ofChange typesScopesWrong)

/-- 'treadmilllaw12.TypesHides': WHATEVER THE INPUT: true; the input reads as it did. -/
def typesHidesSpec : ChangeSpec := { name := "typesHides", fn := fun _ => fun
  | [d1, d2, d3] => { results := [.lit (.bool true)], args := [d1, d2, d3] }
  | _ => none }
def typesHidesRow : OpenClaim := { program := "ytbhgbgaeaejnhaa", sum := "b5ed31600a693980574c5bbe1966df6a4a55cc43c0aeda6de3b03c8bcfea93e4", func := "treadmill/treadmilllaw12.TypesHides", spec := "typesHides", apart := false }
def TypesHidesSaid : Prop := typesHidesRow.holds Try.pinned (OpenSpec.ofChange typesHidesSpec)

/-- ITS FALSE NEIGHBOUR: 'it returns false'. Refute it at one input. -/
def typesHidesWrong : ChangeSpec := { name := "typesHides", fn := fun _ => fun
  | [d1, d2, d3] => { results := [.lit (.bool false)], args := [d1, d2, d3] }
  | _ => none }
def TypesHidesWrongFalsely : Prop := typesHidesRow.holds Try.pinned (OpenSpec.ofChange typesHidesWrong)

/- THE SECOND FORM. 'bulk': how many values and letters a reading holds, each counted each time it is reached (what is shared counts as often as it is met; a slice's spare places count too). A statement '..UptoSaid' is the law's where the arguments, and the package variables that the reading takes, are together of bulk at most 1048576: NARROWER than '..Said'. Prove '..Said' where nothing that the law and all that it calls make is longer than what came in: it says more and counts as full. Else prove '..UptoSaid'. A law counts once. -/
mutual
def uptoBulk {H : Type} : DataW H → Nat
  | .lit (.string bytes) => bytes.length + 1
  | .lit _ => 1
  | .nil => 1
  | .ptr d => uptoBulk d + 1
  | .slice elems spare => uptoBulkAll elems + uptoBulkAll spare + 1
  | .agg parts => uptoBulkAll parts + 1
  | .iface _ d => uptoBulk d + 1
  | .map entries => uptoBulkEntries entries + 1
  | .held _ => 1
def uptoBulkAll {H : Type} : List (DataW H) → Nat
  | [] => 0
  | d :: r => uptoBulk d + uptoBulkAll r
def uptoBulkEntries {H : Type} : List (Lit × DataW H) → Nat
  | [] => 0
  | x :: r => uptoBulkEntry x + uptoBulkEntries r
def uptoBulkEntry {H : Type} : Lit × DataW H → Nat
  | (.string bytes, d) => bytes.length + uptoBulk d + 1
  | (_, d) => uptoBulk d + 1
 end
def uptoSmall : (H : Type) → List (DataW H) → Bool := fun _ ds => decide (uptoBulkAll ds ≤ 1048576)
def OpenSpec.upto (s : _root_.Go.ChangeSpec) : _root_.Go.OpenSpec := { _root_.Go.OpenSpec.ofChange s with cond := some uptoSmall }

/-- 'treadmilllaw12.TypesSigs', WHERE WHAT IT READS IS OF BULK AT MOST 1048576: true; the input reads as it did. -/
def typesSigsUptoRow : OpenClaim := { program := "ytbhgbgaeaejnhaa", sum := "b5ed31600a693980574c5bbe1966df6a4a55cc43c0aeda6de3b03c8bcfea93e4", func := "treadmill/treadmilllaw12.TypesSigs", spec := "typesSigs", inPlace := ["internal/bytealg.abigen_runtime_cmpstring"], unfollowed := true, recurses := true, loops := true, apart := false, narrowed := true }
def TypesSigsUptoSaid : Prop := typesSigsUptoRow.holds Try.pinned (OpenSpec.upto typesSigsSpec)

/-- 'treadmilllaw12.TypesScopes', WHERE WHAT IT READS IS OF BULK AT MOST 1048576: true; the input reads as it did. -/
def typesScopesUptoRow : OpenClaim := { program := "ytbhgbgaeaejnhaa", sum := "b5ed31600a693980574c5bbe1966df6a4a55cc43c0aeda6de3b03c8bcfea93e4", func := "treadmill/treadmilllaw12.TypesScopes", spec := "typesScopes", apart := false, narrowed := true }
def TypesScopesUptoSaid : Prop := typesScopesUptoRow.holds Try.pinned (OpenSpec.upto typesScopesSpec)

/-- 'treadmilllaw12.TypesHides', WHERE WHAT IT READS IS OF BULK AT MOST 1048576: true; the input reads as it did. -/
def typesHidesUptoRow : OpenClaim := { program := "ytbhgbgaeaejnhaa", sum := "b5ed31600a693980574c5bbe1966df6a4a55cc43c0aeda6de3b03c8bcfea93e4", func := "treadmill/treadmilllaw12.TypesHides", spec := "typesHides", apart := false, narrowed := true }
def TypesHidesUptoSaid : Prop := typesHidesUptoRow.holds Try.pinned (OpenSpec.upto typesHidesSpec)

end Rows
end Go.Proofs.Ytbhgbgaeaejnhaa
