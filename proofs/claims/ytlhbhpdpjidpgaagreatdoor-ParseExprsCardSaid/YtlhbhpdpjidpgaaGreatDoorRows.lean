/-
  NARROWER THAN 'FOR EVERY INPUT', by the rows' own cells (each row's printed sentence says how): ParseFiles: laid · ParseExprs: laid · ParseRight: laid.
  DERIVED. THE GIVEN ROWS OF THIS SEAT. 3 by the template 'for every input the law returns true; each argument reads behind the call as it read before'; 0 by the template 'total and deterministic' (their statements: YtlhbhpdpjidpgaaGreatDoorTotals.lean).
  GIVEN WITH THE SEED: the statements are not yours to turn. If you find one false, say at which input.
  Laid BY PROGRAM, IN A SANDBOX (cutbox-rows.mjs): the forced cells as the released guide's own fill.sh prints them over the translation 345f7ab8a5b85341… (all of the seat's roots in one cut). By AI agents, Wed Nov 11 2026. No macro, syntax, notation, axiom, sorry.
-/
import Derived.Test.YtlhbhpdpjidpgaaGreatDoorChecked
import GoSem.Claim
import GoSem.ClaimJoined
import GoSem.ClaimMapViews
import Derived.JoinedTies
import Derived.KernelRfl
namespace Go.Proofs.YtlhbhpdpjidpgaaGreatDoor
/- THE CELL 'sum', in the pinned program and in every row, IS THE sha256 OF THE DUMP (.gsa) THAT YtlhbhpdpjidpgaaGreatDoorProg.lean LOADS. Nothing in Lean hashes anything: it is a label: what it is worth is what the hold of that sum in a sandbox is worth. -/
noncomputable def Tryz.pinned : Pinned := { name := "ytlhbhpdpjidpgaagreatdoor", sum := "345f7ab8a5b85341f9f2031833c9812596c1fc3d64c47ec99a260e48a6f782cb", checked := Tryz.checked }
namespace Rows
def none {H : Type} : Left H := { results := [], args := [] }

/- WHAT THE LISTED PACKAGE-LEVEL VARIABLES READ AS WHEN THE CALL BEGINS. Each datum BY PROGRAM (the guide's laid-datum.mjs) off the statement by which the dump's own 'gosem.cut.vars' lays the variable. In a bare row this is a premise. The card (YtlhbhpdpjidpgaaGreatDoorCards.lean) ties it to the program's text. -/
def laid_treadmill_lex_signs {H : Type} : DataW H := .agg [.lit (.string [40]), .lit (.string [41]), .lit (.string [123]), .lit (.string [125]), .lit (.string [44]), .lit (.string [59]), .lit (.string [46]), .lit (.string [58, 61]), .lit (.string [61]), .lit (.string [61, 61]), .lit (.string [33, 61]), .lit (.string [60]), .lit (.string [60, 61]), .lit (.string [62]), .lit (.string [62, 61]), .lit (.string [43]), .lit (.string [45]), .lit (.string [42]), .lit (.string [47]), .lit (.string [37]), .lit (.string [33]), .lit (.string [38, 38]), .lit (.string [124, 124])]
def laid_treadmill_parse_signs {H : Type} : DataW H := .agg [.agg [.lit (.string [42]), .lit (.int .i64 0), .lit (.int .i64 7)], .agg [.lit (.string [47]), .lit (.int .i64 0), .lit (.int .i64 8)], .agg [.lit (.string [37]), .lit (.int .i64 0), .lit (.int .i64 9)], .agg [.lit (.string [43]), .lit (.int .i64 1), .lit (.int .i64 10)], .agg [.lit (.string [45]), .lit (.int .i64 1), .lit (.int .i64 11)], .agg [.lit (.string [61, 61]), .lit (.int .i64 2), .lit (.int .i64 12)], .agg [.lit (.string [33, 61]), .lit (.int .i64 2), .lit (.int .i64 13)], .agg [.lit (.string [60]), .lit (.int .i64 2), .lit (.int .i64 14)], .agg [.lit (.string [60, 61]), .lit (.int .i64 2), .lit (.int .i64 15)], .agg [.lit (.string [62]), .lit (.int .i64 2), .lit (.int .i64 16)], .agg [.lit (.string [62, 61]), .lit (.int .i64 2), .lit (.int .i64 17)], .agg [.lit (.string [38, 38]), .lit (.int .i64 3), .lit (.int .i64 18)], .agg [.lit (.string [124, 124]), .lit (.int .i64 4), .lit (.int .i64 19)]]

/-- 'treadmilllaw10.ParseFiles': WHATEVER THE INPUT: true; the input reads as it did. -/
def parseFilesSpec : ChangeSpec := { name := "parseFiles", fn := fun _ => fun
  | [d] => { results := [.lit (.bool true)], args := [d] }
  | _ => none }
def parseFilesRow : OpenClaim := { program := "ytlhbhpdpjidpgaagreatdoor", sum := "345f7ab8a5b85341f9f2031833c9812596c1fc3d64c47ec99a260e48a6f782cb", func := "treadmill/treadmilllaw10.ParseFiles", spec := "parseFiles", inPlace := ["internal/bytealg.IndexByteString", "internal/bytealg.IndexString"], unfollowed := true, recurses := true, named := ["internal/bytealg.MaxLen", "treadmill/lex.signs", "treadmill/parse.signs"], apart := false, laid := [("treadmill/lex.signs", laid_treadmill_lex_signs), ("treadmill/parse.signs", laid_treadmill_parse_signs)] }
def ParseFilesSaid : Prop := parseFilesRow.holds Tryz.pinned (OpenSpec.ofChange parseFilesSpec)

/-- ITS FALSE NEIGHBOUR: 'it returns false'. Refute it at one input. -/
def parseFilesWrong : ChangeSpec := { name := "parseFiles", fn := fun _ => fun
  | [d] => { results := [.lit (.bool false)], args := [d] }
  | _ => none }
def ParseFilesWrongFalsely : Prop := parseFilesRow.holds Tryz.pinned (OpenSpec.ofChange parseFilesWrong)

/-- 'treadmilllaw10.ParseExprs': WHATEVER THE INPUT: true; the input reads as it did. -/
def parseExprsSpec : ChangeSpec := { name := "parseExprs", fn := fun _ => fun
  | [d1, d2] => { results := [.lit (.bool true)], args := [d1, d2] }
  | _ => none }
def parseExprsRow : OpenClaim := { program := "ytlhbhpdpjidpgaagreatdoor", sum := "345f7ab8a5b85341f9f2031833c9812596c1fc3d64c47ec99a260e48a6f782cb", func := "treadmill/treadmilllaw10.ParseExprs", spec := "parseExprs", inPlace := ["internal/bytealg.IndexByteString", "internal/bytealg.IndexString"], unfollowed := true, recurses := true, named := ["internal/bytealg.MaxLen", "treadmill/lex.signs", "treadmill/parse.signs"], apart := false, laid := [("treadmill/lex.signs", laid_treadmill_lex_signs), ("treadmill/parse.signs", laid_treadmill_parse_signs)] }
def ParseExprsSaid : Prop := parseExprsRow.holds Tryz.pinned (OpenSpec.ofChange parseExprsSpec)

/-- ITS FALSE NEIGHBOUR: 'it returns false'. Refute it at one input. -/
def parseExprsWrong : ChangeSpec := { name := "parseExprs", fn := fun _ => fun
  | [d1, d2] => { results := [.lit (.bool false)], args := [d1, d2] }
  | _ => none }
def ParseExprsWrongFalsely : Prop := parseExprsRow.holds Tryz.pinned (OpenSpec.ofChange parseExprsWrong)

/-- 'treadmilllaw10.ParseRight': WHATEVER THE INPUT: true; the input reads as it did. -/
def parseRightSpec : ChangeSpec := { name := "parseRight", fn := fun _ => fun
  | [d] => { results := [.lit (.bool true)], args := [d] }
  | _ => none }
def parseRightRow : OpenClaim := { program := "ytlhbhpdpjidpgaagreatdoor", sum := "345f7ab8a5b85341f9f2031833c9812596c1fc3d64c47ec99a260e48a6f782cb", func := "treadmill/treadmilllaw10.ParseRight", spec := "parseRight", inPlace := ["internal/bytealg.IndexByteString", "internal/bytealg.IndexString"], unfollowed := true, recurses := true, named := ["internal/bytealg.MaxLen", "treadmill/lex.signs", "treadmill/parse.signs"], apart := false, laid := [("treadmill/lex.signs", laid_treadmill_lex_signs), ("treadmill/parse.signs", laid_treadmill_parse_signs)] }
def ParseRightSaid : Prop := parseRightRow.holds Tryz.pinned (OpenSpec.ofChange parseRightSpec)

/-- ITS FALSE NEIGHBOUR: 'it returns false'. Refute it at one input. -/
def parseRightWrong : ChangeSpec := { name := "parseRight", fn := fun _ => fun
  | [d] => { results := [.lit (.bool false)], args := [d] }
  | _ => none }
def ParseRightWrongFalsely : Prop := parseRightRow.holds Tryz.pinned (OpenSpec.ofChange parseRightWrong)

/- THE SECOND FORM. 'bulk': how many values and letters a reading holds, each counted each time it is reached (what is shared counts as often as it is met; a slice's spare places count too). A statement '..UptoSaid' is the law's where the arguments, and the package variables that the reading takes, are together of bulk at most 1048576: NARROWER than '..Said'. Prove '..Said' where nothing that the law and all that it calls make is longer than what came in: it says more and counts as full. Else prove '..UptoSaid'. A law counts once. -/
mutual
def uptoBulk {H : Type} : DataW H → Nat
  | .lit (.string bytes) => bytes.length + 1
  | .lit _ => 1
  | .nil => 1
  | .ptr d => uptoBulk d + 1
  | .slice elems spare => uptoBulkAll elems + uptoBulkAll spare + 1
  | .agg parts => uptoBulkAll parts + 1
  | .iface _ d => uptoBulk d + 1
  | .map entries => uptoBulkEntries entries + 1
  | .held _ => 1
def uptoBulkAll {H : Type} : List (DataW H) → Nat
  | [] => 0
  | d :: r => uptoBulk d + uptoBulkAll r
def uptoBulkEntries {H : Type} : List (Lit × DataW H) → Nat
  | [] => 0
  | x :: r => uptoBulkEntry x + uptoBulkEntries r
def uptoBulkEntry {H : Type} : Lit × DataW H → Nat
  | (.string bytes, d) => bytes.length + uptoBulk d + 1
  | (_, d) => uptoBulk d + 1
 end
def uptoSmall : (H : Type) → List (DataW H) → Bool := fun _ ds => decide (uptoBulkAll ds ≤ 1048576)
def OpenSpec.upto (s : _root_.Go.ChangeSpec) : _root_.Go.OpenSpec := { _root_.Go.OpenSpec.ofChange s with cond := some uptoSmall }

/-- 'treadmilllaw10.ParseFiles', WHERE WHAT IT READS IS OF BULK AT MOST 1048576: true; the input reads as it did. -/
def parseFilesUptoRow : OpenClaim := { program := "ytlhbhpdpjidpgaagreatdoor", sum := "345f7ab8a5b85341f9f2031833c9812596c1fc3d64c47ec99a260e48a6f782cb", func := "treadmill/treadmilllaw10.ParseFiles", spec := "parseFiles", inPlace := ["internal/bytealg.IndexByteString", "internal/bytealg.IndexString"], unfollowed := true, recurses := true, named := ["internal/bytealg.MaxLen", "treadmill/lex.signs", "treadmill/parse.signs"], apart := false, laid := [("treadmill/lex.signs", laid_treadmill_lex_signs), ("treadmill/parse.signs", laid_treadmill_parse_signs)], narrowed := true }
def ParseFilesUptoSaid : Prop := parseFilesUptoRow.holds Tryz.pinned (OpenSpec.upto parseFilesSpec)

/-- 'treadmilllaw10.ParseExprs', WHERE WHAT IT READS IS OF BULK AT MOST 1048576: true; the input reads as it did. -/
def parseExprsUptoRow : OpenClaim := { program := "ytlhbhpdpjidpgaagreatdoor", sum := "345f7ab8a5b85341f9f2031833c9812596c1fc3d64c47ec99a260e48a6f782cb", func := "treadmill/treadmilllaw10.ParseExprs", spec := "parseExprs", inPlace := ["internal/bytealg.IndexByteString", "internal/bytealg.IndexString"], unfollowed := true, recurses := true, named := ["internal/bytealg.MaxLen", "treadmill/lex.signs", "treadmill/parse.signs"], apart := false, laid := [("treadmill/lex.signs", laid_treadmill_lex_signs), ("treadmill/parse.signs", laid_treadmill_parse_signs)], narrowed := true }
def ParseExprsUptoSaid : Prop := parseExprsUptoRow.holds Tryz.pinned (OpenSpec.upto parseExprsSpec)

/-- 'treadmilllaw10.ParseRight', WHERE WHAT IT READS IS OF BULK AT MOST 1048576: true; the input reads as it did. -/
def parseRightUptoRow : OpenClaim := { program := "ytlhbhpdpjidpgaagreatdoor", sum := "345f7ab8a5b85341f9f2031833c9812596c1fc3d64c47ec99a260e48a6f782cb", func := "treadmill/treadmilllaw10.ParseRight", spec := "parseRight", inPlace := ["internal/bytealg.IndexByteString", "internal/bytealg.IndexString"], unfollowed := true, recurses := true, named := ["internal/bytealg.MaxLen", "treadmill/lex.signs", "treadmill/parse.signs"], apart := false, laid := [("treadmill/lex.signs", laid_treadmill_lex_signs), ("treadmill/parse.signs", laid_treadmill_parse_signs)], narrowed := true }
def ParseRightUptoSaid : Prop := parseRightUptoRow.holds Tryz.pinned (OpenSpec.upto parseRightSpec)

end Rows
end Go.Proofs.YtlhbhpdpjidpgaaGreatDoor
