/-
  NARROWER THAN 'FOR EVERY INPUT', by the rows' own cells (each row's printed sentence says how): LexTells: laid · LexBack: laid · LexParts: laid · LexOne: laid · LexBad: laid.
  DERIVED. THE GIVEN ROWS OF THIS SEAT. 5 by the template 'for every input the law returns true; each argument reads behind the call as it read before'; 0 by the template 'total and deterministic' (their statements: YtmjpmcefoebjpaaDoorTotals.lean).
  GIVEN WITH THE SEED: the statements are not yours to turn. If you find one false, say at which input.
  Laid BY PROGRAM, IN A SANDBOX (cutbox-rows.mjs): the forced cells as the released guide's own fill.sh prints them over the translation 9b410ba92583a551… (all of the seat's roots in one cut). By AI agents, Wed Nov 11 2026. No macro, syntax, notation, axiom, sorry.
-/
import Derived.Test.YtmjpmcefoebjpaaDoorChecked
import GoSem.Claim
import GoSem.ClaimJoined
import GoSem.ClaimMapViews
import Derived.JoinedTies
import Derived.KernelRfl
namespace Go.Proofs.YtmjpmcefoebjpaaDoor
/- THE CELL 'sum', in the pinned program and in every row, IS THE sha256 OF THE DUMP (.gsa) THAT YtmjpmcefoebjpaaDoorProg.lean LOADS. Nothing in Lean hashes anything: it is a label: what it is worth is what the hold of that sum in a sandbox is worth. -/
noncomputable def Tryd.pinned : Pinned := { name := "ytmjpmcefoebjpaadoor", sum := "9b410ba92583a5512052fda37b443113a216f0708b48bc9622c8245edbaa06ac", checked := Tryd.checked }
namespace Rows
def none {H : Type} : Left H := { results := [], args := [] }

/- WHAT THE LISTED PACKAGE-LEVEL VARIABLES READ AS WHEN THE CALL BEGINS. Each datum BY PROGRAM (the guide's laid-datum.mjs) off the statement by which the dump's own 'gosem.cut.vars' lays the variable. In a bare row this is a premise. The card (YtmjpmcefoebjpaaDoorCards.lean) ties it to the program's text. -/
def laid_straggle_lex_ops {H : Type} : DataW H := .agg [.lit (.string []), .lit (.string [60]), .lit (.string [60, 61]), .lit (.string [61]), .lit (.string [33, 61]), .lit (.string [62]), .lit (.string [62, 61])]

/-- 'stragglelaw07.LexTells': WHATEVER THE INPUT: true; the input reads as it did. -/
def lexTellsSpec : ChangeSpec := { name := "lexTells", fn := fun _ => fun
  | [d1, d2] => { results := [.lit (.bool true)], args := [d1, d2] }
  | _ => none }
def lexTellsRow : OpenClaim := { program := "ytmjpmcefoebjpaadoor", sum := "9b410ba92583a5512052fda37b443113a216f0708b48bc9622c8245edbaa06ac", func := "straggle/stragglelaw07.LexTells", spec := "lexTells", unfollowed := true, recurses := true, named := ["straggle/lex.ops"], apart := false, laid := [("straggle/lex.ops", laid_straggle_lex_ops)] }
def LexTellsSaid : Prop := lexTellsRow.holds Tryd.pinned (OpenSpec.ofChange lexTellsSpec)

/-- ITS FALSE NEIGHBOUR: 'it returns false'. Refute it at one input. -/
def lexTellsWrong : ChangeSpec := { name := "lexTells", fn := fun _ => fun
  | [d1, d2] => { results := [.lit (.bool false)], args := [d1, d2] }
  | _ => none }
def LexTellsWrongFalsely : Prop := lexTellsRow.holds Tryd.pinned (OpenSpec.ofChange lexTellsWrong)

/-- 'stragglelaw07.LexBack': WHATEVER THE INPUT: true; the input reads as it did. -/
def lexBackSpec : ChangeSpec := { name := "lexBack", fn := fun _ => fun
  | [d] => { results := [.lit (.bool true)], args := [d] }
  | _ => none }
def lexBackRow : OpenClaim := { program := "ytmjpmcefoebjpaadoor", sum := "9b410ba92583a5512052fda37b443113a216f0708b48bc9622c8245edbaa06ac", func := "straggle/stragglelaw07.LexBack", spec := "lexBack", unfollowed := true, recurses := true, named := ["straggle/lex.ops"], apart := false, laid := [("straggle/lex.ops", laid_straggle_lex_ops)] }
def LexBackSaid : Prop := lexBackRow.holds Tryd.pinned (OpenSpec.ofChange lexBackSpec)

/-- ITS FALSE NEIGHBOUR: 'it returns false'. Refute it at one input. -/
def lexBackWrong : ChangeSpec := { name := "lexBack", fn := fun _ => fun
  | [d] => { results := [.lit (.bool false)], args := [d] }
  | _ => none }
def LexBackWrongFalsely : Prop := lexBackRow.holds Tryd.pinned (OpenSpec.ofChange lexBackWrong)

/-- 'stragglelaw07.LexParts': WHATEVER THE INPUT: true; the input reads as it did. -/
def lexPartsSpec : ChangeSpec := { name := "lexParts", fn := fun _ => fun
  | [d1, d2] => { results := [.lit (.bool true)], args := [d1, d2] }
  | _ => none }
def lexPartsRow : OpenClaim := { program := "ytmjpmcefoebjpaadoor", sum := "9b410ba92583a5512052fda37b443113a216f0708b48bc9622c8245edbaa06ac", func := "straggle/stragglelaw07.LexParts", spec := "lexParts", unfollowed := true, recurses := true, named := ["straggle/lex.ops"], apart := false, laid := [("straggle/lex.ops", laid_straggle_lex_ops)] }
def LexPartsSaid : Prop := lexPartsRow.holds Tryd.pinned (OpenSpec.ofChange lexPartsSpec)

/-- ITS FALSE NEIGHBOUR: 'it returns false'. Refute it at one input. -/
def lexPartsWrong : ChangeSpec := { name := "lexParts", fn := fun _ => fun
  | [d1, d2] => { results := [.lit (.bool false)], args := [d1, d2] }
  | _ => none }
def LexPartsWrongFalsely : Prop := lexPartsRow.holds Tryd.pinned (OpenSpec.ofChange lexPartsWrong)

/-- 'stragglelaw07.LexOne': WHATEVER THE INPUT: true; the input reads as it did. -/
def lexOneSpec : ChangeSpec := { name := "lexOne", fn := fun _ => fun
  | [d] => { results := [.lit (.bool true)], args := [d] }
  | _ => none }
def lexOneRow : OpenClaim := { program := "ytmjpmcefoebjpaadoor", sum := "9b410ba92583a5512052fda37b443113a216f0708b48bc9622c8245edbaa06ac", func := "straggle/stragglelaw07.LexOne", spec := "lexOne", unfollowed := true, recurses := true, named := ["straggle/lex.ops"], apart := false, laid := [("straggle/lex.ops", laid_straggle_lex_ops)] }
def LexOneSaid : Prop := lexOneRow.holds Tryd.pinned (OpenSpec.ofChange lexOneSpec)

/-- ITS FALSE NEIGHBOUR: 'it returns false'. Refute it at one input. -/
def lexOneWrong : ChangeSpec := { name := "lexOne", fn := fun _ => fun
  | [d] => { results := [.lit (.bool false)], args := [d] }
  | _ => none }
def LexOneWrongFalsely : Prop := lexOneRow.holds Tryd.pinned (OpenSpec.ofChange lexOneWrong)

/-- 'stragglelaw07.LexBad': WHATEVER THE INPUT: true; the input reads as it did. -/
def lexBadSpec : ChangeSpec := { name := "lexBad", fn := fun _ => fun
  | [d1, d2] => { results := [.lit (.bool true)], args := [d1, d2] }
  | _ => none }
def lexBadRow : OpenClaim := { program := "ytmjpmcefoebjpaadoor", sum := "9b410ba92583a5512052fda37b443113a216f0708b48bc9622c8245edbaa06ac", func := "straggle/stragglelaw07.LexBad", spec := "lexBad", unfollowed := true, recurses := true, named := ["straggle/lex.ops"], apart := false, laid := [("straggle/lex.ops", laid_straggle_lex_ops)] }
def LexBadSaid : Prop := lexBadRow.holds Tryd.pinned (OpenSpec.ofChange lexBadSpec)

/-- ITS FALSE NEIGHBOUR: 'it returns false'. Refute it at one input. -/
def lexBadWrong : ChangeSpec := { name := "lexBad", fn := fun _ => fun
  | [d1, d2] => { results := [.lit (.bool false)], args := [d1, d2] }
  | _ => none }
def LexBadWrongFalsely : Prop := lexBadRow.holds Tryd.pinned (OpenSpec.ofChange lexBadWrong)

/- THE SECOND FORM. 'bulk': how many values and letters a reading holds, each counted each time it is reached (what is shared counts as often as it is met; a slice's spare places count too). A statement '..UptoSaid' is the law's where the arguments, and the package variables that the reading takes, are together of bulk at most 1048576: NARROWER than '..Said'. Prove '..Said' where nothing that the law and all that it calls make is longer than what came in: it says more and counts as full. Else prove '..UptoSaid'. A law counts once. -/
mutual
def uptoBulk {H : Type} : DataW H → Nat
  | .lit (.string bytes) => bytes.length + 1
  | .lit _ => 1
  | .nil => 1
  | .ptr d => uptoBulk d + 1
  | .slice elems spare => uptoBulkAll elems + uptoBulkAll spare + 1
  | .agg parts => uptoBulkAll parts + 1
  | .iface _ d => uptoBulk d + 1
  | .map entries => uptoBulkEntries entries + 1
  | .held _ => 1
def uptoBulkAll {H : Type} : List (DataW H) → Nat
  | [] => 0
  | d :: r => uptoBulk d + uptoBulkAll r
def uptoBulkEntries {H : Type} : List (Lit × DataW H) → Nat
  | [] => 0
  | x :: r => uptoBulkEntry x + uptoBulkEntries r
def uptoBulkEntry {H : Type} : Lit × DataW H → Nat
  | (.string bytes, d) => bytes.length + uptoBulk d + 1
  | (_, d) => uptoBulk d + 1
 end
def uptoSmall : (H : Type) → List (DataW H) → Bool := fun _ ds => decide (uptoBulkAll ds ≤ 1048576)
def OpenSpec.upto (s : _root_.Go.ChangeSpec) : _root_.Go.OpenSpec := { _root_.Go.OpenSpec.ofChange s with cond := some uptoSmall }

/-- 'stragglelaw07.LexTells', WHERE WHAT IT READS IS OF BULK AT MOST 1048576: true; the input reads as it did. -/
def lexTellsUptoRow : OpenClaim := { program := "ytmjpmcefoebjpaadoor", sum := "9b410ba92583a5512052fda37b443113a216f0708b48bc9622c8245edbaa06ac", func := "straggle/stragglelaw07.LexTells", spec := "lexTells", unfollowed := true, recurses := true, named := ["straggle/lex.ops"], apart := false, laid := [("straggle/lex.ops", laid_straggle_lex_ops)], narrowed := true }
def LexTellsUptoSaid : Prop := lexTellsUptoRow.holds Tryd.pinned (OpenSpec.upto lexTellsSpec)

/-- 'stragglelaw07.LexBack', WHERE WHAT IT READS IS OF BULK AT MOST 1048576: true; the input reads as it did. -/
def lexBackUptoRow : OpenClaim := { program := "ytmjpmcefoebjpaadoor", sum := "9b410ba92583a5512052fda37b443113a216f0708b48bc9622c8245edbaa06ac", func := "straggle/stragglelaw07.LexBack", spec := "lexBack", unfollowed := true, recurses := true, named := ["straggle/lex.ops"], apart := false, laid := [("straggle/lex.ops", laid_straggle_lex_ops)], narrowed := true }
def LexBackUptoSaid : Prop := lexBackUptoRow.holds Tryd.pinned (OpenSpec.upto lexBackSpec)

/-- 'stragglelaw07.LexParts', WHERE WHAT IT READS IS OF BULK AT MOST 1048576: true; the input reads as it did. -/
def lexPartsUptoRow : OpenClaim := { program := "ytmjpmcefoebjpaadoor", sum := "9b410ba92583a5512052fda37b443113a216f0708b48bc9622c8245edbaa06ac", func := "straggle/stragglelaw07.LexParts", spec := "lexParts", unfollowed := true, recurses := true, named := ["straggle/lex.ops"], apart := false, laid := [("straggle/lex.ops", laid_straggle_lex_ops)], narrowed := true }
def LexPartsUptoSaid : Prop := lexPartsUptoRow.holds Tryd.pinned (OpenSpec.upto lexPartsSpec)

/-- 'stragglelaw07.LexOne', WHERE WHAT IT READS IS OF BULK AT MOST 1048576: true; the input reads as it did. -/
def lexOneUptoRow : OpenClaim := { program := "ytmjpmcefoebjpaadoor", sum := "9b410ba92583a5512052fda37b443113a216f0708b48bc9622c8245edbaa06ac", func := "straggle/stragglelaw07.LexOne", spec := "lexOne", unfollowed := true, recurses := true, named := ["straggle/lex.ops"], apart := false, laid := [("straggle/lex.ops", laid_straggle_lex_ops)], narrowed := true }
def LexOneUptoSaid : Prop := lexOneUptoRow.holds Tryd.pinned (OpenSpec.upto lexOneSpec)

/-- 'stragglelaw07.LexBad', WHERE WHAT IT READS IS OF BULK AT MOST 1048576: true; the input reads as it did. -/
def lexBadUptoRow : OpenClaim := { program := "ytmjpmcefoebjpaadoor", sum := "9b410ba92583a5512052fda37b443113a216f0708b48bc9622c8245edbaa06ac", func := "straggle/stragglelaw07.LexBad", spec := "lexBad", unfollowed := true, recurses := true, named := ["straggle/lex.ops"], apart := false, laid := [("straggle/lex.ops", laid_straggle_lex_ops)], narrowed := true }
def LexBadUptoSaid : Prop := lexBadUptoRow.holds Tryd.pinned (OpenSpec.upto lexBadSpec)

end Rows
end Go.Proofs.YtmjpmcefoebjpaaDoor
