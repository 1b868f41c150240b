/-
  NARROWER THAN 'FOR EVERY INPUT', by the rows' own cells (each row's printed sentence says how): ParseTells: laid · ParseMay: laid · ParseBlanks: laid · ParseCut: laid · ParseMore: laid · PrintTells: laid · PrintBack: laid · PrintBlanks: laid · PrintParts: laid · PrintApart: laid.
  DERIVED. THE GIVEN ROWS OF THIS SEAT. 10 by the template 'for every input the law returns true; each argument reads behind the call as it read before'; 0 by the template 'total and deterministic' (their statements: YtkedifhlkiffoaaDoorTotals.lean).
  GIVEN WITH THE SEED: the statements are not yours to turn. If you find one false, say at which input.
  Laid BY PROGRAM, IN A SANDBOX (cutbox-rows.mjs): the forced cells as the released guide's own fill.sh prints them over the translation 86f45cf204d8f97c… (all of the seat's roots in one cut). By AI agents, Wed Nov 11 2026. No macro, syntax, notation, axiom, sorry.
-/
import Derived.Test.YtkedifhlkiffoaaDoorChecked
import GoSem.Claim
import GoSem.ClaimJoined
import GoSem.ClaimMapViews
import Derived.JoinedTies
import Derived.KernelRfl
namespace Go.Proofs.YtkedifhlkiffoaaDoor
/- THE CELL 'sum', in the pinned program and in every row, IS THE sha256 OF THE DUMP (.gsa) THAT YtkedifhlkiffoaaDoorProg.lean LOADS. Nothing in Lean hashes anything: it is a label: what it is worth is what the hold of that sum in a sandbox is worth. -/
noncomputable def Tryd.pinned : Pinned := { name := "ytkedifhlkiffoaadoor", sum := "86f45cf204d8f97c1b7b9ce1a255126c16504088cdc68d9cc0a0f3fc4c911a34", checked := Tryd.checked }
namespace Rows
def none {H : Type} : Left H := { results := [], args := [] }

/- WHAT THE LISTED PACKAGE-LEVEL VARIABLES READ AS WHEN THE CALL BEGINS. Each datum BY PROGRAM (the guide's laid-datum.mjs) off the statement by which the dump's own 'gosem.cut.vars' lays the variable. In a bare row this is a premise. The card (YtkedifhlkiffoaaDoorCards.lean) ties it to the program's text. -/
def laid_straggle_lex_ops {H : Type} : DataW H := .agg [.lit (.string []), .lit (.string [60]), .lit (.string [60, 61]), .lit (.string [61]), .lit (.string [33, 61]), .lit (.string [62]), .lit (.string [62, 61])]
def laid_straggle_print_signs {H : Type} : DataW H := .agg [.agg [.lit (.string [40]), .lit (.string [44]), .lit (.string [41])], .agg [.lit (.string [123]), .lit (.string [44]), .lit (.string [125])], .agg [.lit (.string [91]), .lit (.string [38]), .lit (.string [93])]]
def laid_straggle_print_firsts {H : Type} : DataW H := .agg [.lit (.string []), .lit (.string [116]), .lit (.string [120]), .lit (.string [121]), .lit (.string [110]), .lit (.string [100]), .lit (.string [99])]
def laid_straggle_print_ops {H : Type} : DataW H := .agg [.lit (.string []), .lit (.string [60]), .lit (.string [60, 61]), .lit (.string [61]), .lit (.string [33, 61]), .lit (.string [62]), .lit (.string [62, 61])]

/-- 'stragglelaw09.ParseTells': WHATEVER THE INPUT: true; the input reads as it did. -/
def parseTellsSpec : ChangeSpec := { name := "parseTells", fn := fun _ => fun
  | [d] => { results := [.lit (.bool true)], args := [d] }
  | _ => none }
def parseTellsRow : OpenClaim := { program := "ytkedifhlkiffoaadoor", sum := "86f45cf204d8f97c1b7b9ce1a255126c16504088cdc68d9cc0a0f3fc4c911a34", func := "straggle/stragglelaw09.ParseTells", spec := "parseTells", unfollowed := true, recurses := true, named := ["straggle/lex.ops"], apart := false, laid := [("straggle/lex.ops", laid_straggle_lex_ops)] }
def ParseTellsSaid : Prop := parseTellsRow.holds Tryd.pinned (OpenSpec.ofChange parseTellsSpec)

/-- ITS FALSE NEIGHBOUR: 'it returns false'. Refute it at one input. -/
def parseTellsWrong : ChangeSpec := { name := "parseTells", fn := fun _ => fun
  | [d] => { results := [.lit (.bool false)], args := [d] }
  | _ => none }
def ParseTellsWrongFalsely : Prop := parseTellsRow.holds Tryd.pinned (OpenSpec.ofChange parseTellsWrong)

/-- 'stragglelaw09.ParseMay': WHATEVER THE INPUT: true; the input reads as it did. -/
def parseMaySpec : ChangeSpec := { name := "parseMay", fn := fun _ => fun
  | [d] => { results := [.lit (.bool true)], args := [d] }
  | _ => none }
def parseMayRow : OpenClaim := { program := "ytkedifhlkiffoaadoor", sum := "86f45cf204d8f97c1b7b9ce1a255126c16504088cdc68d9cc0a0f3fc4c911a34", func := "straggle/stragglelaw09.ParseMay", spec := "parseMay", unfollowed := true, recurses := true, named := ["straggle/lex.ops"], apart := false, laid := [("straggle/lex.ops", laid_straggle_lex_ops)] }
def ParseMaySaid : Prop := parseMayRow.holds Tryd.pinned (OpenSpec.ofChange parseMaySpec)

/-- ITS FALSE NEIGHBOUR: 'it returns false'. Refute it at one input. -/
def parseMayWrong : ChangeSpec := { name := "parseMay", fn := fun _ => fun
  | [d] => { results := [.lit (.bool false)], args := [d] }
  | _ => none }
def ParseMayWrongFalsely : Prop := parseMayRow.holds Tryd.pinned (OpenSpec.ofChange parseMayWrong)

/-- 'stragglelaw09.ParseBlanks': WHATEVER THE INPUT: true; the input reads as it did. -/
def parseBlanksSpec : ChangeSpec := { name := "parseBlanks", fn := fun _ => fun
  | [d1, d2] => { results := [.lit (.bool true)], args := [d1, d2] }
  | _ => none }
def parseBlanksRow : OpenClaim := { program := "ytkedifhlkiffoaadoor", sum := "86f45cf204d8f97c1b7b9ce1a255126c16504088cdc68d9cc0a0f3fc4c911a34", func := "straggle/stragglelaw09.ParseBlanks", spec := "parseBlanks", unfollowed := true, recurses := true, named := ["straggle/lex.ops"], apart := false, laid := [("straggle/lex.ops", laid_straggle_lex_ops)] }
def ParseBlanksSaid : Prop := parseBlanksRow.holds Tryd.pinned (OpenSpec.ofChange parseBlanksSpec)

/-- ITS FALSE NEIGHBOUR: 'it returns false'. Refute it at one input. -/
def parseBlanksWrong : ChangeSpec := { name := "parseBlanks", fn := fun _ => fun
  | [d1, d2] => { results := [.lit (.bool false)], args := [d1, d2] }
  | _ => none }
def ParseBlanksWrongFalsely : Prop := parseBlanksRow.holds Tryd.pinned (OpenSpec.ofChange parseBlanksWrong)

/-- 'stragglelaw09.ParseCut': WHATEVER THE INPUT: true; the input reads as it did. -/
def parseCutSpec : ChangeSpec := { name := "parseCut", fn := fun _ => fun
  | [d] => { results := [.lit (.bool true)], args := [d] }
  | _ => none }
def parseCutRow : OpenClaim := { program := "ytkedifhlkiffoaadoor", sum := "86f45cf204d8f97c1b7b9ce1a255126c16504088cdc68d9cc0a0f3fc4c911a34", func := "straggle/stragglelaw09.ParseCut", spec := "parseCut", unfollowed := true, recurses := true, named := ["straggle/lex.ops"], apart := false, laid := [("straggle/lex.ops", laid_straggle_lex_ops)] }
def ParseCutSaid : Prop := parseCutRow.holds Tryd.pinned (OpenSpec.ofChange parseCutSpec)

/-- ITS FALSE NEIGHBOUR: 'it returns false'. Refute it at one input. -/
def parseCutWrong : ChangeSpec := { name := "parseCut", fn := fun _ => fun
  | [d] => { results := [.lit (.bool false)], args := [d] }
  | _ => none }
def ParseCutWrongFalsely : Prop := parseCutRow.holds Tryd.pinned (OpenSpec.ofChange parseCutWrong)

/-- 'stragglelaw09.ParseMore': WHATEVER THE INPUT: true; the input reads as it did. -/
def parseMoreSpec : ChangeSpec := { name := "parseMore", fn := fun _ => fun
  | [d1, d2, d3, d4] => { results := [.lit (.bool true)], args := [d1, d2, d3, d4] }
  | _ => none }
def parseMoreRow : OpenClaim := { program := "ytkedifhlkiffoaadoor", sum := "86f45cf204d8f97c1b7b9ce1a255126c16504088cdc68d9cc0a0f3fc4c911a34", func := "straggle/stragglelaw09.ParseMore", spec := "parseMore", unfollowed := true, recurses := true, named := ["straggle/lex.ops"], apart := false, laid := [("straggle/lex.ops", laid_straggle_lex_ops)] }
def ParseMoreSaid : Prop := parseMoreRow.holds Tryd.pinned (OpenSpec.ofChange parseMoreSpec)

/-- ITS FALSE NEIGHBOUR: 'it returns false'. Refute it at one input. -/
def parseMoreWrong : ChangeSpec := { name := "parseMore", fn := fun _ => fun
  | [d1, d2, d3, d4] => { results := [.lit (.bool false)], args := [d1, d2, d3, d4] }
  | _ => none }
def ParseMoreWrongFalsely : Prop := parseMoreRow.holds Tryd.pinned (OpenSpec.ofChange parseMoreWrong)

/-- 'stragglelaw10.PrintTells': WHATEVER THE INPUT: true; the input reads as it did. -/
def printTellsSpec : ChangeSpec := { name := "printTells", fn := fun _ => fun
  | [d1, d2, d3, d4, d5, d6] => { results := [.lit (.bool true)], args := [d1, d2, d3, d4, d5, d6] }
  | _ => none }
def printTellsRow : OpenClaim := { program := "ytkedifhlkiffoaadoor", sum := "86f45cf204d8f97c1b7b9ce1a255126c16504088cdc68d9cc0a0f3fc4c911a34", func := "straggle/stragglelaw10.PrintTells", spec := "printTells", inPlace := ["internal/abi.NoEscape"], unfollowed := true, recurses := true, named := ["straggle/print.signs", "straggle/print.ops", "straggle/print.firsts"], apart := false, laid := [("straggle/print.signs", laid_straggle_print_signs), ("straggle/print.firsts", laid_straggle_print_firsts), ("straggle/print.ops", laid_straggle_print_ops)] }
def PrintTellsSaid : Prop := printTellsRow.holds Tryd.pinned (OpenSpec.ofChange printTellsSpec)

/-- ITS FALSE NEIGHBOUR: 'it returns false'. Refute it at one input. -/
def printTellsWrong : ChangeSpec := { name := "printTells", fn := fun _ => fun
  | [d1, d2, d3, d4, d5, d6] => { results := [.lit (.bool false)], args := [d1, d2, d3, d4, d5, d6] }
  | _ => none }
def PrintTellsWrongFalsely : Prop := printTellsRow.holds Tryd.pinned (OpenSpec.ofChange printTellsWrong)

/-- 'stragglelaw10.PrintBack': WHATEVER THE INPUT: true; the input reads as it did. -/
def printBackSpec : ChangeSpec := { name := "printBack", fn := fun _ => fun
  | [d] => { results := [.lit (.bool true)], args := [d] }
  | _ => none }
def printBackRow : OpenClaim := { program := "ytkedifhlkiffoaadoor", sum := "86f45cf204d8f97c1b7b9ce1a255126c16504088cdc68d9cc0a0f3fc4c911a34", func := "straggle/stragglelaw10.PrintBack", spec := "printBack", inPlace := ["internal/abi.NoEscape"], unfollowed := true, recurses := true, named := ["straggle/print.signs", "straggle/print.ops", "straggle/print.firsts"], apart := false, laid := [("straggle/print.signs", laid_straggle_print_signs), ("straggle/print.firsts", laid_straggle_print_firsts), ("straggle/print.ops", laid_straggle_print_ops)] }
def PrintBackSaid : Prop := printBackRow.holds Tryd.pinned (OpenSpec.ofChange printBackSpec)

/-- ITS FALSE NEIGHBOUR: 'it returns false'. Refute it at one input. -/
def printBackWrong : ChangeSpec := { name := "printBack", fn := fun _ => fun
  | [d] => { results := [.lit (.bool false)], args := [d] }
  | _ => none }
def PrintBackWrongFalsely : Prop := printBackRow.holds Tryd.pinned (OpenSpec.ofChange printBackWrong)

/-- 'stragglelaw10.PrintBlanks': WHATEVER THE INPUT: true; the input reads as it did. -/
def printBlanksSpec : ChangeSpec := { name := "printBlanks", fn := fun _ => fun
  | [d] => { results := [.lit (.bool true)], args := [d] }
  | _ => none }
def printBlanksRow : OpenClaim := { program := "ytkedifhlkiffoaadoor", sum := "86f45cf204d8f97c1b7b9ce1a255126c16504088cdc68d9cc0a0f3fc4c911a34", func := "straggle/stragglelaw10.PrintBlanks", spec := "printBlanks", inPlace := ["internal/abi.NoEscape"], unfollowed := true, recurses := true, named := ["straggle/print.signs", "straggle/print.ops", "straggle/print.firsts"], apart := false, laid := [("straggle/print.signs", laid_straggle_print_signs), ("straggle/print.firsts", laid_straggle_print_firsts), ("straggle/print.ops", laid_straggle_print_ops)] }
def PrintBlanksSaid : Prop := printBlanksRow.holds Tryd.pinned (OpenSpec.ofChange printBlanksSpec)

/-- ITS FALSE NEIGHBOUR: 'it returns false'. Refute it at one input. -/
def printBlanksWrong : ChangeSpec := { name := "printBlanks", fn := fun _ => fun
  | [d] => { results := [.lit (.bool false)], args := [d] }
  | _ => none }
def PrintBlanksWrongFalsely : Prop := printBlanksRow.holds Tryd.pinned (OpenSpec.ofChange printBlanksWrong)

/-- 'stragglelaw10.PrintParts': WHATEVER THE INPUT: true; the input reads as it did. -/
def printPartsSpec : ChangeSpec := { name := "printParts", fn := fun _ => fun
  | [d1, d2] => { results := [.lit (.bool true)], args := [d1, d2] }
  | _ => none }
def printPartsRow : OpenClaim := { program := "ytkedifhlkiffoaadoor", sum := "86f45cf204d8f97c1b7b9ce1a255126c16504088cdc68d9cc0a0f3fc4c911a34", func := "straggle/stragglelaw10.PrintParts", spec := "printParts", inPlace := ["internal/abi.NoEscape"], unfollowed := true, recurses := true, named := ["straggle/print.signs", "straggle/print.ops", "straggle/print.firsts"], apart := false, laid := [("straggle/print.signs", laid_straggle_print_signs), ("straggle/print.firsts", laid_straggle_print_firsts), ("straggle/print.ops", laid_straggle_print_ops)] }
def PrintPartsSaid : Prop := printPartsRow.holds Tryd.pinned (OpenSpec.ofChange printPartsSpec)

/-- ITS FALSE NEIGHBOUR: 'it returns false'. Refute it at one input. -/
def printPartsWrong : ChangeSpec := { name := "printParts", fn := fun _ => fun
  | [d1, d2] => { results := [.lit (.bool false)], args := [d1, d2] }
  | _ => none }
def PrintPartsWrongFalsely : Prop := printPartsRow.holds Tryd.pinned (OpenSpec.ofChange printPartsWrong)

/-- 'stragglelaw10.PrintApart': WHATEVER THE INPUT: true; the input reads as it did. -/
def printApartSpec : ChangeSpec := { name := "printApart", fn := fun _ => fun
  | [d1, d2, d3, d4] => { results := [.lit (.bool true)], args := [d1, d2, d3, d4] }
  | _ => none }
def printApartRow : OpenClaim := { program := "ytkedifhlkiffoaadoor", sum := "86f45cf204d8f97c1b7b9ce1a255126c16504088cdc68d9cc0a0f3fc4c911a34", func := "straggle/stragglelaw10.PrintApart", spec := "printApart", inPlace := ["internal/abi.NoEscape"], unfollowed := true, recurses := true, named := ["straggle/print.signs", "straggle/print.ops", "straggle/print.firsts"], apart := false, laid := [("straggle/print.signs", laid_straggle_print_signs), ("straggle/print.firsts", laid_straggle_print_firsts), ("straggle/print.ops", laid_straggle_print_ops)] }
def PrintApartSaid : Prop := printApartRow.holds Tryd.pinned (OpenSpec.ofChange printApartSpec)

/-- ITS FALSE NEIGHBOUR: 'it returns false'. Refute it at one input. -/
def printApartWrong : ChangeSpec := { name := "printApart", fn := fun _ => fun
  | [d1, d2, d3, d4] => { results := [.lit (.bool false)], args := [d1, d2, d3, d4] }
  | _ => none }
def PrintApartWrongFalsely : Prop := printApartRow.holds Tryd.pinned (OpenSpec.ofChange printApartWrong)

/- THE SECOND FORM. 'bulk': how many values and letters a reading holds, each counted each time it is reached (what is shared counts as often as it is met; a slice's spare places count too). A statement '..UptoSaid' is the law's where the arguments, and the package variables that the reading takes, are together of bulk at most 1048576: NARROWER than '..Said'. Prove '..Said' where nothing that the law and all that it calls make is longer than what came in: it says more and counts as full. Else prove '..UptoSaid'. A law counts once. -/
mutual
def uptoBulk {H : Type} : DataW H → Nat
  | .lit (.string bytes) => bytes.length + 1
  | .lit _ => 1
  | .nil => 1
  | .ptr d => uptoBulk d + 1
  | .slice elems spare => uptoBulkAll elems + uptoBulkAll spare + 1
  | .agg parts => uptoBulkAll parts + 1
  | .iface _ d => uptoBulk d + 1
  | .map entries => uptoBulkEntries entries + 1
  | .held _ => 1
def uptoBulkAll {H : Type} : List (DataW H) → Nat
  | [] => 0
  | d :: r => uptoBulk d + uptoBulkAll r
def uptoBulkEntries {H : Type} : List (Lit × DataW H) → Nat
  | [] => 0
  | x :: r => uptoBulkEntry x + uptoBulkEntries r
def uptoBulkEntry {H : Type} : Lit × DataW H → Nat
  | (.string bytes, d) => bytes.length + uptoBulk d + 1
  | (_, d) => uptoBulk d + 1
 end
def uptoSmall : (H : Type) → List (DataW H) → Bool := fun _ ds => decide (uptoBulkAll ds ≤ 1048576)
def OpenSpec.upto (s : _root_.Go.ChangeSpec) : _root_.Go.OpenSpec := { _root_.Go.OpenSpec.ofChange s with cond := some uptoSmall }

/-- 'stragglelaw09.ParseTells', WHERE WHAT IT READS IS OF BULK AT MOST 1048576: true; the input reads as it did. -/
def parseTellsUptoRow : OpenClaim := { program := "ytkedifhlkiffoaadoor", sum := "86f45cf204d8f97c1b7b9ce1a255126c16504088cdc68d9cc0a0f3fc4c911a34", func := "straggle/stragglelaw09.ParseTells", spec := "parseTells", unfollowed := true, recurses := true, named := ["straggle/lex.ops"], apart := false, laid := [("straggle/lex.ops", laid_straggle_lex_ops)], narrowed := true }
def ParseTellsUptoSaid : Prop := parseTellsUptoRow.holds Tryd.pinned (OpenSpec.upto parseTellsSpec)

/-- 'stragglelaw09.ParseMay', WHERE WHAT IT READS IS OF BULK AT MOST 1048576: true; the input reads as it did. -/
def parseMayUptoRow : OpenClaim := { program := "ytkedifhlkiffoaadoor", sum := "86f45cf204d8f97c1b7b9ce1a255126c16504088cdc68d9cc0a0f3fc4c911a34", func := "straggle/stragglelaw09.ParseMay", spec := "parseMay", unfollowed := true, recurses := true, named := ["straggle/lex.ops"], apart := false, laid := [("straggle/lex.ops", laid_straggle_lex_ops)], narrowed := true }
def ParseMayUptoSaid : Prop := parseMayUptoRow.holds Tryd.pinned (OpenSpec.upto parseMaySpec)

/-- 'stragglelaw09.ParseBlanks', WHERE WHAT IT READS IS OF BULK AT MOST 1048576: true; the input reads as it did. -/
def parseBlanksUptoRow : OpenClaim := { program := "ytkedifhlkiffoaadoor", sum := "86f45cf204d8f97c1b7b9ce1a255126c16504088cdc68d9cc0a0f3fc4c911a34", func := "straggle/stragglelaw09.ParseBlanks", spec := "parseBlanks", unfollowed := true, recurses := true, named := ["straggle/lex.ops"], apart := false, laid := [("straggle/lex.ops", laid_straggle_lex_ops)], narrowed := true }
def ParseBlanksUptoSaid : Prop := parseBlanksUptoRow.holds Tryd.pinned (OpenSpec.upto parseBlanksSpec)

/-- 'stragglelaw09.ParseCut', WHERE WHAT IT READS IS OF BULK AT MOST 1048576: true; the input reads as it did. -/
def parseCutUptoRow : OpenClaim := { program := "ytkedifhlkiffoaadoor", sum := "86f45cf204d8f97c1b7b9ce1a255126c16504088cdc68d9cc0a0f3fc4c911a34", func := "straggle/stragglelaw09.ParseCut", spec := "parseCut", unfollowed := true, recurses := true, named := ["straggle/lex.ops"], apart := false, laid := [("straggle/lex.ops", laid_straggle_lex_ops)], narrowed := true }
def ParseCutUptoSaid : Prop := parseCutUptoRow.holds Tryd.pinned (OpenSpec.upto parseCutSpec)

/-- 'stragglelaw09.ParseMore', WHERE WHAT IT READS IS OF BULK AT MOST 1048576: true; the input reads as it did. -/
def parseMoreUptoRow : OpenClaim := { program := "ytkedifhlkiffoaadoor", sum := "86f45cf204d8f97c1b7b9ce1a255126c16504088cdc68d9cc0a0f3fc4c911a34", func := "straggle/stragglelaw09.ParseMore", spec := "parseMore", unfollowed := true, recurses := true, named := ["straggle/lex.ops"], apart := false, laid := [("straggle/lex.ops", laid_straggle_lex_ops)], narrowed := true }
def ParseMoreUptoSaid : Prop := parseMoreUptoRow.holds Tryd.pinned (OpenSpec.upto parseMoreSpec)

/-- 'stragglelaw10.PrintTells', WHERE WHAT IT READS IS OF BULK AT MOST 1048576: true; the input reads as it did. -/
def printTellsUptoRow : OpenClaim := { program := "ytkedifhlkiffoaadoor", sum := "86f45cf204d8f97c1b7b9ce1a255126c16504088cdc68d9cc0a0f3fc4c911a34", func := "straggle/stragglelaw10.PrintTells", spec := "printTells", inPlace := ["internal/abi.NoEscape"], unfollowed := true, recurses := true, named := ["straggle/print.signs", "straggle/print.ops", "straggle/print.firsts"], apart := false, laid := [("straggle/print.signs", laid_straggle_print_signs), ("straggle/print.firsts", laid_straggle_print_firsts), ("straggle/print.ops", laid_straggle_print_ops)], narrowed := true }
def PrintTellsUptoSaid : Prop := printTellsUptoRow.holds Tryd.pinned (OpenSpec.upto printTellsSpec)

/-- 'stragglelaw10.PrintBack', WHERE WHAT IT READS IS OF BULK AT MOST 1048576: true; the input reads as it did. -/
def printBackUptoRow : OpenClaim := { program := "ytkedifhlkiffoaadoor", sum := "86f45cf204d8f97c1b7b9ce1a255126c16504088cdc68d9cc0a0f3fc4c911a34", func := "straggle/stragglelaw10.PrintBack", spec := "printBack", inPlace := ["internal/abi.NoEscape"], unfollowed := true, recurses := true, named := ["straggle/print.signs", "straggle/print.ops", "straggle/print.firsts"], apart := false, laid := [("straggle/print.signs", laid_straggle_print_signs), ("straggle/print.firsts", laid_straggle_print_firsts), ("straggle/print.ops", laid_straggle_print_ops)], narrowed := true }
def PrintBackUptoSaid : Prop := printBackUptoRow.holds Tryd.pinned (OpenSpec.upto printBackSpec)

/-- 'stragglelaw10.PrintBlanks', WHERE WHAT IT READS IS OF BULK AT MOST 1048576: true; the input reads as it did. -/
def printBlanksUptoRow : OpenClaim := { program := "ytkedifhlkiffoaadoor", sum := "86f45cf204d8f97c1b7b9ce1a255126c16504088cdc68d9cc0a0f3fc4c911a34", func := "straggle/stragglelaw10.PrintBlanks", spec := "printBlanks", inPlace := ["internal/abi.NoEscape"], unfollowed := true, recurses := true, named := ["straggle/print.signs", "straggle/print.ops", "straggle/print.firsts"], apart := false, laid := [("straggle/print.signs", laid_straggle_print_signs), ("straggle/print.firsts", laid_straggle_print_firsts), ("straggle/print.ops", laid_straggle_print_ops)], narrowed := true }
def PrintBlanksUptoSaid : Prop := printBlanksUptoRow.holds Tryd.pinned (OpenSpec.upto printBlanksSpec)

/-- 'stragglelaw10.PrintParts', WHERE WHAT IT READS IS OF BULK AT MOST 1048576: true; the input reads as it did. -/
def printPartsUptoRow : OpenClaim := { program := "ytkedifhlkiffoaadoor", sum := "86f45cf204d8f97c1b7b9ce1a255126c16504088cdc68d9cc0a0f3fc4c911a34", func := "straggle/stragglelaw10.PrintParts", spec := "printParts", inPlace := ["internal/abi.NoEscape"], unfollowed := true, recurses := true, named := ["straggle/print.signs", "straggle/print.ops", "straggle/print.firsts"], apart := false, laid := [("straggle/print.signs", laid_straggle_print_signs), ("straggle/print.firsts", laid_straggle_print_firsts), ("straggle/print.ops", laid_straggle_print_ops)], narrowed := true }
def PrintPartsUptoSaid : Prop := printPartsUptoRow.holds Tryd.pinned (OpenSpec.upto printPartsSpec)

/-- 'stragglelaw10.PrintApart', WHERE WHAT IT READS IS OF BULK AT MOST 1048576: true; the input reads as it did. -/
def printApartUptoRow : OpenClaim := { program := "ytkedifhlkiffoaadoor", sum := "86f45cf204d8f97c1b7b9ce1a255126c16504088cdc68d9cc0a0f3fc4c911a34", func := "straggle/stragglelaw10.PrintApart", spec := "printApart", inPlace := ["internal/abi.NoEscape"], unfollowed := true, recurses := true, named := ["straggle/print.signs", "straggle/print.ops", "straggle/print.firsts"], apart := false, laid := [("straggle/print.signs", laid_straggle_print_signs), ("straggle/print.firsts", laid_straggle_print_firsts), ("straggle/print.ops", laid_straggle_print_ops)], narrowed := true }
def PrintApartUptoSaid : Prop := printApartUptoRow.holds Tryd.pinned (OpenSpec.upto printApartSpec)

end Rows
end Go.Proofs.YtkedifhlkiffoaaDoor
