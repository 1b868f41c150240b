/-
  No cell of these rows narrows 'for every input' (looked for: loops, veiled, ifaces, maps, wideKeys, modest, calm, conditions, laid).
  DERIVED. THE GIVEN ROWS OF THIS SEAT. 2 by the template 'for every input the law returns true; each argument reads behind the call as it read before'; 0 by the template 'total and deterministic' (their statements: YtccmnngeibpcmaaGreatTotals.lean).
  GIVEN WITH THE SEED: the statements are not yours to turn. If you find one false, say at which input.
  Laid BY PROGRAM, IN A SANDBOX (cutbox-rows.mjs): the forced cells as the released guide's own fill.sh prints them over the translation 4670251d156b4842… (all of the seat's roots in one cut). By AI agents, Wed Nov 11 2026. No macro, syntax, notation, axiom, sorry.
-/
import Derived.Test.YtccmnngeibpcmaaGreatChecked
import GoSem.Claim
import GoSem.ClaimJoined
import GoSem.ClaimMapViews
import Derived.JoinedTies
import Derived.KernelRfl
namespace Go.Proofs.YtccmnngeibpcmaaGreat
/- THE CELL 'sum', in the pinned program and in every row, IS THE sha256 OF THE DUMP (.gsa) THAT YtccmnngeibpcmaaGreatProg.lean LOADS. Nothing in Lean hashes anything: it is a label: what it is worth is what the hold of that sum in a sandbox is worth. -/
noncomputable def Tryz.pinned : Pinned := { name := "ytccmnngeibpcmaagreat", sum := "4670251d156b48428a697c8bbe802ac46a41495122eed2d0c64d9587f55c47c2", checked := Tryz.checked }
namespace Rows
def none {H : Type} : Left H := { results := [], args := [] }

/-- 'stragglelaw14.NfaRows': WHATEVER THE INPUT: true; the input reads as it did. -/
def nfaRowsSpec : ChangeSpec := { name := "nfaRows", fn := fun _ => fun
  | [d] => { results := [.lit (.bool true)], args := [d] }
  | _ => none }
def nfaRowsRow : OpenClaim := { program := "ytccmnngeibpcmaagreat", sum := "4670251d156b48428a697c8bbe802ac46a41495122eed2d0c64d9587f55c47c2", func := "straggle/stragglelaw14.NfaRows", spec := "nfaRows", unfollowed := true, recurses := true, apart := false }
def NfaRowsSaid : Prop := nfaRowsRow.holds Tryz.pinned (OpenSpec.ofChange nfaRowsSpec)

/-- ITS FALSE NEIGHBOUR: 'it returns false'. Refute it at one input. -/
def nfaRowsWrong : ChangeSpec := { name := "nfaRows", fn := fun _ => fun
  | [d] => { results := [.lit (.bool false)], args := [d] }
  | _ => none }
def NfaRowsWrongFalsely : Prop := nfaRowsRow.holds Tryz.pinned (OpenSpec.ofChange nfaRowsWrong)

/-- 'stragglelaw14.NfaGuards': WHATEVER THE INPUT: true; the input reads as it did. -/
def nfaGuardsSpec : ChangeSpec := { name := "nfaGuards", fn := fun _ => fun
  | [d] => { results := [.lit (.bool true)], args := [d] }
  | _ => none }
def nfaGuardsRow : OpenClaim := { program := "ytccmnngeibpcmaagreat", sum := "4670251d156b48428a697c8bbe802ac46a41495122eed2d0c64d9587f55c47c2", func := "straggle/stragglelaw14.NfaGuards", spec := "nfaGuards", unfollowed := true, recurses := true, apart := false }
def NfaGuardsSaid : Prop := nfaGuardsRow.holds Tryz.pinned (OpenSpec.ofChange nfaGuardsSpec)

/-- ITS FALSE NEIGHBOUR: 'it returns false'. Refute it at one input. -/
def nfaGuardsWrong : ChangeSpec := { name := "nfaGuards", fn := fun _ => fun
  | [d] => { results := [.lit (.bool false)], args := [d] }
  | _ => none }
def NfaGuardsWrongFalsely : Prop := nfaGuardsRow.holds Tryz.pinned (OpenSpec.ofChange nfaGuardsWrong)

/- THE SECOND FORM. 'bulk': how many values and letters a reading holds, each counted each time it is reached (what is shared counts as often as it is met; a slice's spare places count too). A statement '..UptoSaid' is the law's where the arguments, and the package variables that the reading takes, are together of bulk at most 1048576: NARROWER than '..Said'. Prove '..Said' where nothing that the law and all that it calls make is longer than what came in: it says more and counts as full. Else prove '..UptoSaid'. A law counts once. -/
mutual
def uptoBulk {H : Type} : DataW H → Nat
  | .lit (.string bytes) => bytes.length + 1
  | .lit _ => 1
  | .nil => 1
  | .ptr d => uptoBulk d + 1
  | .slice elems spare => uptoBulkAll elems + uptoBulkAll spare + 1
  | .agg parts => uptoBulkAll parts + 1
  | .iface _ d => uptoBulk d + 1
  | .map entries => uptoBulkEntries entries + 1
  | .held _ => 1
def uptoBulkAll {H : Type} : List (DataW H) → Nat
  | [] => 0
  | d :: r => uptoBulk d + uptoBulkAll r
def uptoBulkEntries {H : Type} : List (Lit × DataW H) → Nat
  | [] => 0
  | x :: r => uptoBulkEntry x + uptoBulkEntries r
def uptoBulkEntry {H : Type} : Lit × DataW H → Nat
  | (.string bytes, d) => bytes.length + uptoBulk d + 1
  | (_, d) => uptoBulk d + 1
 end
def uptoSmall : (H : Type) → List (DataW H) → Bool := fun _ ds => decide (uptoBulkAll ds ≤ 1048576)
def OpenSpec.upto (s : _root_.Go.ChangeSpec) : _root_.Go.OpenSpec := { _root_.Go.OpenSpec.ofChange s with cond := some uptoSmall }

/-- 'stragglelaw14.NfaRows', WHERE WHAT IT READS IS OF BULK AT MOST 1048576: true; the input reads as it did. -/
def nfaRowsUptoRow : OpenClaim := { program := "ytccmnngeibpcmaagreat", sum := "4670251d156b48428a697c8bbe802ac46a41495122eed2d0c64d9587f55c47c2", func := "straggle/stragglelaw14.NfaRows", spec := "nfaRows", unfollowed := true, recurses := true, apart := false, narrowed := true }
def NfaRowsUptoSaid : Prop := nfaRowsUptoRow.holds Tryz.pinned (OpenSpec.upto nfaRowsSpec)

/-- 'stragglelaw14.NfaGuards', WHERE WHAT IT READS IS OF BULK AT MOST 1048576: true; the input reads as it did. -/
def nfaGuardsUptoRow : OpenClaim := { program := "ytccmnngeibpcmaagreat", sum := "4670251d156b48428a697c8bbe802ac46a41495122eed2d0c64d9587f55c47c2", func := "straggle/stragglelaw14.NfaGuards", spec := "nfaGuards", unfollowed := true, recurses := true, apart := false, narrowed := true }
def NfaGuardsUptoSaid : Prop := nfaGuardsUptoRow.holds Tryz.pinned (OpenSpec.upto nfaGuardsSpec)

end Rows
end Go.Proofs.YtccmnngeibpcmaaGreat
