/-
  No cell of these rows narrows 'for every input' (looked for: loops, veiled, ifaces, maps, wideKeys, modest, calm, conditions, laid).
  DERIVED. THE GIVEN ROWS OF THIS SEAT. 5 by the template 'for every input the law returns true; each argument reads behind the call as it read before'; 0 by the template 'total and deterministic' (their statements: YtmgkamljlgmmeaaTotals.lean).
  GIVEN WITH THE SEED: the statements are not yours to turn. If you find one false, say at which input.
  Laid BY PROGRAM, IN A SANDBOX (cutbox-rows.mjs): the forced cells as the released guide's own fill.sh prints them over the translation 6f0f8d5a81d54e56… (all of the seat's roots in one cut). By AI agents, Wed Nov 11 2026. No macro, syntax, notation, axiom, sorry.
-/
import Derived.Test.YtmgkamljlgmmeaaChecked
import GoSem.Claim
import GoSem.ClaimJoined
import GoSem.ClaimMapViews
import Derived.JoinedTies
import Derived.KernelRfl
namespace Go.Proofs.Ytmgkamljlgmmeaa
/- THE CELL 'sum', in the pinned program and in every row, IS THE sha256 OF THE DUMP (.gsa) THAT YtmgkamljlgmmeaaProg.lean LOADS. Nothing in Lean hashes anything: it is a label: what it is worth is what the hold of that sum in a sandbox is worth. -/
noncomputable def Try.pinned : Pinned := { name := "ytmgkamljlgmmeaa", sum := "6f0f8d5a81d54e560c8e2e3a9f83d98b4e5f4f6527ca172c5f2f397403736db0", checked := Try.checked }
namespace Rows
def none {H : Type} : Left H := { results := [], args := [] }

/-- 'stragglelaw11.CheckTells': WHATEVER THE INPUT: true; the input reads as it did. -/
def checkTellsSpec : ChangeSpec := { name := "checkTells", fn := fun _ => fun
  | [d1, d2] => { results := [.lit (.bool true)], args := [d1, d2] }
  | _ => none }
def checkTellsRow : OpenClaim := { program := "ytmgkamljlgmmeaa", sum := "6f0f8d5a81d54e560c8e2e3a9f83d98b4e5f4f6527ca172c5f2f397403736db0", func := "straggle/stragglelaw11.CheckTells", spec := "checkTells", unfollowed := true, recurses := true, apart := false }
def CheckTellsSaid : Prop := checkTellsRow.holds Try.pinned (OpenSpec.ofChange checkTellsSpec)

/-- ITS FALSE NEIGHBOUR: 'it returns false'. Refute it at one input. -/
def checkTellsWrong : ChangeSpec := { name := "checkTells", fn := fun _ => fun
  | [d1, d2] => { results := [.lit (.bool false)], args := [d1, d2] }
  | _ => none }
def CheckTellsWrongFalsely : Prop := checkTellsRow.holds Try.pinned (OpenSpec.ofChange checkTellsWrong)

/-- 'stragglelaw11.CheckMay': WHATEVER THE INPUT: true; the input reads as it did. -/
def checkMaySpec : ChangeSpec := { name := "checkMay", fn := fun _ => fun
  | [d] => { results := [.lit (.bool true)], args := [d] }
  | _ => none }
def checkMayRow : OpenClaim := { program := "ytmgkamljlgmmeaa", sum := "6f0f8d5a81d54e560c8e2e3a9f83d98b4e5f4f6527ca172c5f2f397403736db0", func := "straggle/stragglelaw11.CheckMay", spec := "checkMay", unfollowed := true, recurses := true, apart := false }
def CheckMaySaid : Prop := checkMayRow.holds Try.pinned (OpenSpec.ofChange checkMaySpec)

/-- ITS FALSE NEIGHBOUR: 'it returns false'. Refute it at one input. -/
def checkMayWrong : ChangeSpec := { name := "checkMay", fn := fun _ => fun
  | [d] => { results := [.lit (.bool false)], args := [d] }
  | _ => none }
def CheckMayWrongFalsely : Prop := checkMayRow.holds Try.pinned (OpenSpec.ofChange checkMayWrong)

/-- 'stragglelaw11.CheckOne': WHATEVER THE INPUT: true; the input reads as it did. -/
def checkOneSpec : ChangeSpec := { name := "checkOne", fn := fun _ => fun
  | [d1, d2, d3] => { results := [.lit (.bool true)], args := [d1, d2, d3] }
  | _ => none }
def checkOneRow : OpenClaim := { program := "ytmgkamljlgmmeaa", sum := "6f0f8d5a81d54e560c8e2e3a9f83d98b4e5f4f6527ca172c5f2f397403736db0", func := "straggle/stragglelaw11.CheckOne", spec := "checkOne", unfollowed := true, recurses := true, apart := false }
def CheckOneSaid : Prop := checkOneRow.holds Try.pinned (OpenSpec.ofChange checkOneSpec)

/-- ITS FALSE NEIGHBOUR: 'it returns false'. Refute it at one input. -/
def checkOneWrong : ChangeSpec := { name := "checkOne", fn := fun _ => fun
  | [d1, d2, d3] => { results := [.lit (.bool false)], args := [d1, d2, d3] }
  | _ => none }
def CheckOneWrongFalsely : Prop := checkOneRow.holds Try.pinned (OpenSpec.ofChange checkOneWrong)

/-- 'stragglelaw11.CheckFirst': WHATEVER THE INPUT: true; the input reads as it did. -/
def checkFirstSpec : ChangeSpec := { name := "checkFirst", fn := fun _ => fun
  | [d] => { results := [.lit (.bool true)], args := [d] }
  | _ => none }
def checkFirstRow : OpenClaim := { program := "ytmgkamljlgmmeaa", sum := "6f0f8d5a81d54e560c8e2e3a9f83d98b4e5f4f6527ca172c5f2f397403736db0", func := "straggle/stragglelaw11.CheckFirst", spec := "checkFirst", unfollowed := true, recurses := true, apart := false }
def CheckFirstSaid : Prop := checkFirstRow.holds Try.pinned (OpenSpec.ofChange checkFirstSpec)

/-- ITS FALSE NEIGHBOUR: 'it returns false'. Refute it at one input. -/
def checkFirstWrong : ChangeSpec := { name := "checkFirst", fn := fun _ => fun
  | [d] => { results := [.lit (.bool false)], args := [d] }
  | _ => none }
def CheckFirstWrongFalsely : Prop := checkFirstRow.holds Try.pinned (OpenSpec.ofChange checkFirstWrong)

/-- 'stragglelaw11.CheckTails': WHATEVER THE INPUT: true; the input reads as it did. -/
def checkTailsSpec : ChangeSpec := { name := "checkTails", fn := fun _ => fun
  | [d1, d2] => { results := [.lit (.bool true)], args := [d1, d2] }
  | _ => none }
def checkTailsRow : OpenClaim := { program := "ytmgkamljlgmmeaa", sum := "6f0f8d5a81d54e560c8e2e3a9f83d98b4e5f4f6527ca172c5f2f397403736db0", func := "straggle/stragglelaw11.CheckTails", spec := "checkTails", unfollowed := true, recurses := true, apart := false }
def CheckTailsSaid : Prop := checkTailsRow.holds Try.pinned (OpenSpec.ofChange checkTailsSpec)

/-- ITS FALSE NEIGHBOUR: 'it returns false'. Refute it at one input. -/
def checkTailsWrong : ChangeSpec := { name := "checkTails", fn := fun _ => fun
  | [d1, d2] => { results := [.lit (.bool false)], args := [d1, d2] }
  | _ => none }
def CheckTailsWrongFalsely : Prop := checkTailsRow.holds Try.pinned (OpenSpec.ofChange checkTailsWrong)

/- THE SECOND FORM. 'bulk': how many values and letters a reading holds, each counted each time it is reached (what is shared counts as often as it is met; a slice's spare places count too). A statement '..UptoSaid' is the law's where the arguments, and the package variables that the reading takes, are together of bulk at most 1048576: NARROWER than '..Said'. Prove '..Said' where nothing that the law and all that it calls make is longer than what came in: it says more and counts as full. Else prove '..UptoSaid'. A law counts once. -/
mutual
def uptoBulk {H : Type} : DataW H → Nat
  | .lit (.string bytes) => bytes.length + 1
  | .lit _ => 1
  | .nil => 1
  | .ptr d => uptoBulk d + 1
  | .slice elems spare => uptoBulkAll elems + uptoBulkAll spare + 1
  | .agg parts => uptoBulkAll parts + 1
  | .iface _ d => uptoBulk d + 1
  | .map entries => uptoBulkEntries entries + 1
  | .held _ => 1
def uptoBulkAll {H : Type} : List (DataW H) → Nat
  | [] => 0
  | d :: r => uptoBulk d + uptoBulkAll r
def uptoBulkEntries {H : Type} : List (Lit × DataW H) → Nat
  | [] => 0
  | x :: r => uptoBulkEntry x + uptoBulkEntries r
def uptoBulkEntry {H : Type} : Lit × DataW H → Nat
  | (.string bytes, d) => bytes.length + uptoBulk d + 1
  | (_, d) => uptoBulk d + 1
 end
def uptoSmall : (H : Type) → List (DataW H) → Bool := fun _ ds => decide (uptoBulkAll ds ≤ 1048576)
def OpenSpec.upto (s : _root_.Go.ChangeSpec) : _root_.Go.OpenSpec := { _root_.Go.OpenSpec.ofChange s with cond := some uptoSmall }

/-- 'stragglelaw11.CheckTells', WHERE WHAT IT READS IS OF BULK AT MOST 1048576: true; the input reads as it did. -/
def checkTellsUptoRow : OpenClaim := { program := "ytmgkamljlgmmeaa", sum := "6f0f8d5a81d54e560c8e2e3a9f83d98b4e5f4f6527ca172c5f2f397403736db0", func := "straggle/stragglelaw11.CheckTells", spec := "checkTells", unfollowed := true, recurses := true, apart := false, narrowed := true }
def CheckTellsUptoSaid : Prop := checkTellsUptoRow.holds Try.pinned (OpenSpec.upto checkTellsSpec)

/-- 'stragglelaw11.CheckMay', WHERE WHAT IT READS IS OF BULK AT MOST 1048576: true; the input reads as it did. -/
def checkMayUptoRow : OpenClaim := { program := "ytmgkamljlgmmeaa", sum := "6f0f8d5a81d54e560c8e2e3a9f83d98b4e5f4f6527ca172c5f2f397403736db0", func := "straggle/stragglelaw11.CheckMay", spec := "checkMay", unfollowed := true, recurses := true, apart := false, narrowed := true }
def CheckMayUptoSaid : Prop := checkMayUptoRow.holds Try.pinned (OpenSpec.upto checkMaySpec)

/-- 'stragglelaw11.CheckOne', WHERE WHAT IT READS IS OF BULK AT MOST 1048576: true; the input reads as it did. -/
def checkOneUptoRow : OpenClaim := { program := "ytmgkamljlgmmeaa", sum := "6f0f8d5a81d54e560c8e2e3a9f83d98b4e5f4f6527ca172c5f2f397403736db0", func := "straggle/stragglelaw11.CheckOne", spec := "checkOne", unfollowed := true, recurses := true, apart := false, narrowed := true }
def CheckOneUptoSaid : Prop := checkOneUptoRow.holds Try.pinned (OpenSpec.upto checkOneSpec)

/-- 'stragglelaw11.CheckFirst', WHERE WHAT IT READS IS OF BULK AT MOST 1048576: true; the input reads as it did. -/
def checkFirstUptoRow : OpenClaim := { program := "ytmgkamljlgmmeaa", sum := "6f0f8d5a81d54e560c8e2e3a9f83d98b4e5f4f6527ca172c5f2f397403736db0", func := "straggle/stragglelaw11.CheckFirst", spec := "checkFirst", unfollowed := true, recurses := true, apart := false, narrowed := true }
def CheckFirstUptoSaid : Prop := checkFirstUptoRow.holds Try.pinned (OpenSpec.upto checkFirstSpec)

/-- 'stragglelaw11.CheckTails', WHERE WHAT IT READS IS OF BULK AT MOST 1048576: true; the input reads as it did. -/
def checkTailsUptoRow : OpenClaim := { program := "ytmgkamljlgmmeaa", sum := "6f0f8d5a81d54e560c8e2e3a9f83d98b4e5f4f6527ca172c5f2f397403736db0", func := "straggle/stragglelaw11.CheckTails", spec := "checkTails", unfollowed := true, recurses := true, apart := false, narrowed := true }
def CheckTailsUptoSaid : Prop := checkTailsUptoRow.holds Try.pinned (OpenSpec.upto checkTailsSpec)

end Rows
end Go.Proofs.Ytmgkamljlgmmeaa
