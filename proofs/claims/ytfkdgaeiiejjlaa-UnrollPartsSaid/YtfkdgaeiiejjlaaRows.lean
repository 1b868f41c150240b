/-
  No cell of these rows narrows 'for every input' (looked for: loops, veiled, ifaces, maps, wideKeys, modest, calm, conditions, laid).
  DERIVED. THE GIVEN ROWS OF THIS SEAT. 4 by the template 'for every input the law returns true; each argument reads behind the call as it read before'; 0 by the template 'total and deterministic' (their statements: YtfkdgaeiiejjlaaTotals.lean).
  GIVEN WITH THE SEED: the statements are not yours to turn. If you find one false, say at which input.
  Laid BY PROGRAM, IN A SANDBOX (cutbox-rows.mjs): the forced cells as the released guide's own fill.sh prints them over the translation 99b8923fa4e7f9a7… (all of the seat's roots in one cut). By AI agents, Wed Nov 11 2026. No macro, syntax, notation, axiom, sorry.
-/
import Derived.Test.YtfkdgaeiiejjlaaChecked
import GoSem.Claim
import GoSem.ClaimJoined
import GoSem.ClaimMapViews
import Derived.JoinedTies
import Derived.KernelRfl
namespace Go.Proofs.Ytfkdgaeiiejjlaa
/- THE CELL 'sum', in the pinned program and in every row, IS THE sha256 OF THE DUMP (.gsa) THAT YtfkdgaeiiejjlaaProg.lean LOADS. Nothing in Lean hashes anything: it is a label: what it is worth is what the hold of that sum in a sandbox is worth. -/
noncomputable def Try.pinned : Pinned := { name := "ytfkdgaeiiejjlaa", sum := "99b8923fa4e7f9a79d7e1e4df56751da32f854055f2153ba910d2bbec00650b3", checked := Try.checked }
namespace Rows
def none {H : Type} : Left H := { results := [], args := [] }

/-- 'stragglelaw13.UnrollAll': WHATEVER THE INPUT: true; the input reads as it did. -/
def unrollAllSpec : ChangeSpec := { name := "unrollAll", fn := fun _ => fun
  | [d1, d2] => { results := [.lit (.bool true)], args := [d1, d2] }
  | _ => none }
def unrollAllRow : OpenClaim := { program := "ytfkdgaeiiejjlaa", sum := "99b8923fa4e7f9a79d7e1e4df56751da32f854055f2153ba910d2bbec00650b3", func := "straggle/stragglelaw13.UnrollAll", spec := "unrollAll", unfollowed := true, recurses := true, apart := false }
def UnrollAllSaid : Prop := unrollAllRow.holds Try.pinned (OpenSpec.ofChange unrollAllSpec)

/-- ITS FALSE NEIGHBOUR: 'it returns false'. Refute it at one input. -/
def unrollAllWrong : ChangeSpec := { name := "unrollAll", fn := fun _ => fun
  | [d1, d2] => { results := [.lit (.bool false)], args := [d1, d2] }
  | _ => none }
def UnrollAllWrongFalsely : Prop := unrollAllRow.holds Try.pinned (OpenSpec.ofChange unrollAllWrong)

/-- 'stragglelaw13.UnrollGuards': WHATEVER THE INPUT: true; the input reads as it did. -/
def unrollGuardsSpec : ChangeSpec := { name := "unrollGuards", fn := fun _ => fun
  | [d1, d2] => { results := [.lit (.bool true)], args := [d1, d2] }
  | _ => none }
def unrollGuardsRow : OpenClaim := { program := "ytfkdgaeiiejjlaa", sum := "99b8923fa4e7f9a79d7e1e4df56751da32f854055f2153ba910d2bbec00650b3", func := "straggle/stragglelaw13.UnrollGuards", spec := "unrollGuards", unfollowed := true, recurses := true, apart := false }
def UnrollGuardsSaid : Prop := unrollGuardsRow.holds Try.pinned (OpenSpec.ofChange unrollGuardsSpec)

/-- ITS FALSE NEIGHBOUR: 'it returns false'. Refute it at one input. -/
def unrollGuardsWrong : ChangeSpec := { name := "unrollGuards", fn := fun _ => fun
  | [d1, d2] => { results := [.lit (.bool false)], args := [d1, d2] }
  | _ => none }
def UnrollGuardsWrongFalsely : Prop := unrollGuardsRow.holds Try.pinned (OpenSpec.ofChange unrollGuardsWrong)

/-- 'stragglelaw13.UnrollParts': WHATEVER THE INPUT: true; the input reads as it did. -/
def unrollPartsSpec : ChangeSpec := { name := "unrollParts", fn := fun _ => fun
  | [d] => { results := [.lit (.bool true)], args := [d] }
  | _ => none }
def unrollPartsRow : OpenClaim := { program := "ytfkdgaeiiejjlaa", sum := "99b8923fa4e7f9a79d7e1e4df56751da32f854055f2153ba910d2bbec00650b3", func := "straggle/stragglelaw13.UnrollParts", spec := "unrollParts", unfollowed := true, recurses := true, apart := false }
def UnrollPartsSaid : Prop := unrollPartsRow.holds Try.pinned (OpenSpec.ofChange unrollPartsSpec)

/-- ITS FALSE NEIGHBOUR: 'it returns false'. Refute it at one input. -/
def unrollPartsWrong : ChangeSpec := { name := "unrollParts", fn := fun _ => fun
  | [d] => { results := [.lit (.bool false)], args := [d] }
  | _ => none }
def UnrollPartsWrongFalsely : Prop := unrollPartsRow.holds Try.pinned (OpenSpec.ofChange unrollPartsWrong)

/-- 'stragglelaw13.UnrollOwn': WHATEVER THE INPUT: true; the input reads as it did. -/
def unrollOwnSpec : ChangeSpec := { name := "unrollOwn", fn := fun _ => fun
  | [d] => { results := [.lit (.bool true)], args := [d] }
  | _ => none }
def unrollOwnRow : OpenClaim := { program := "ytfkdgaeiiejjlaa", sum := "99b8923fa4e7f9a79d7e1e4df56751da32f854055f2153ba910d2bbec00650b3", func := "straggle/stragglelaw13.UnrollOwn", spec := "unrollOwn", unfollowed := true, recurses := true, apart := false }
def UnrollOwnSaid : Prop := unrollOwnRow.holds Try.pinned (OpenSpec.ofChange unrollOwnSpec)

/-- ITS FALSE NEIGHBOUR: 'it returns false'. Refute it at one input. -/
def unrollOwnWrong : ChangeSpec := { name := "unrollOwn", fn := fun _ => fun
  | [d] => { results := [.lit (.bool false)], args := [d] }
  | _ => none }
def UnrollOwnWrongFalsely : Prop := unrollOwnRow.holds Try.pinned (OpenSpec.ofChange unrollOwnWrong)

/- THE SECOND FORM. 'bulk': how many values and letters a reading holds, each counted each time it is reached (what is shared counts as often as it is met; a slice's spare places count too). A statement '..UptoSaid' is the law's where the arguments, and the package variables that the reading takes, are together of bulk at most 1048576: NARROWER than '..Said'. Prove '..Said' where nothing that the law and all that it calls make is longer than what came in: it says more and counts as full. Else prove '..UptoSaid'. A law counts once. -/
mutual
def uptoBulk {H : Type} : DataW H → Nat
  | .lit (.string bytes) => bytes.length + 1
  | .lit _ => 1
  | .nil => 1
  | .ptr d => uptoBulk d + 1
  | .slice elems spare => uptoBulkAll elems + uptoBulkAll spare + 1
  | .agg parts => uptoBulkAll parts + 1
  | .iface _ d => uptoBulk d + 1
  | .map entries => uptoBulkEntries entries + 1
  | .held _ => 1
def uptoBulkAll {H : Type} : List (DataW H) → Nat
  | [] => 0
  | d :: r => uptoBulk d + uptoBulkAll r
def uptoBulkEntries {H : Type} : List (Lit × DataW H) → Nat
  | [] => 0
  | x :: r => uptoBulkEntry x + uptoBulkEntries r
def uptoBulkEntry {H : Type} : Lit × DataW H → Nat
  | (.string bytes, d) => bytes.length + uptoBulk d + 1
  | (_, d) => uptoBulk d + 1
 end
def uptoSmall : (H : Type) → List (DataW H) → Bool := fun _ ds => decide (uptoBulkAll ds ≤ 1048576)
def OpenSpec.upto (s : _root_.Go.ChangeSpec) : _root_.Go.OpenSpec := { _root_.Go.OpenSpec.ofChange s with cond := some uptoSmall }

/-- 'stragglelaw13.UnrollAll', WHERE WHAT IT READS IS OF BULK AT MOST 1048576: true; the input reads as it did. -/
def unrollAllUptoRow : OpenClaim := { program := "ytfkdgaeiiejjlaa", sum := "99b8923fa4e7f9a79d7e1e4df56751da32f854055f2153ba910d2bbec00650b3", func := "straggle/stragglelaw13.UnrollAll", spec := "unrollAll", unfollowed := true, recurses := true, apart := false, narrowed := true }
def UnrollAllUptoSaid : Prop := unrollAllUptoRow.holds Try.pinned (OpenSpec.upto unrollAllSpec)

/-- 'stragglelaw13.UnrollGuards', WHERE WHAT IT READS IS OF BULK AT MOST 1048576: true; the input reads as it did. -/
def unrollGuardsUptoRow : OpenClaim := { program := "ytfkdgaeiiejjlaa", sum := "99b8923fa4e7f9a79d7e1e4df56751da32f854055f2153ba910d2bbec00650b3", func := "straggle/stragglelaw13.UnrollGuards", spec := "unrollGuards", unfollowed := true, recurses := true, apart := false, narrowed := true }
def UnrollGuardsUptoSaid : Prop := unrollGuardsUptoRow.holds Try.pinned (OpenSpec.upto unrollGuardsSpec)

/-- 'stragglelaw13.UnrollParts', WHERE WHAT IT READS IS OF BULK AT MOST 1048576: true; the input reads as it did. -/
def unrollPartsUptoRow : OpenClaim := { program := "ytfkdgaeiiejjlaa", sum := "99b8923fa4e7f9a79d7e1e4df56751da32f854055f2153ba910d2bbec00650b3", func := "straggle/stragglelaw13.UnrollParts", spec := "unrollParts", unfollowed := true, recurses := true, apart := false, narrowed := true }
def UnrollPartsUptoSaid : Prop := unrollPartsUptoRow.holds Try.pinned (OpenSpec.upto unrollPartsSpec)

/-- 'stragglelaw13.UnrollOwn', WHERE WHAT IT READS IS OF BULK AT MOST 1048576: true; the input reads as it did. -/
def unrollOwnUptoRow : OpenClaim := { program := "ytfkdgaeiiejjlaa", sum := "99b8923fa4e7f9a79d7e1e4df56751da32f854055f2153ba910d2bbec00650b3", func := "straggle/stragglelaw13.UnrollOwn", spec := "unrollOwn", unfollowed := true, recurses := true, apart := false, narrowed := true }
def UnrollOwnUptoSaid : Prop := unrollOwnUptoRow.holds Try.pinned (OpenSpec.upto unrollOwnSpec)

end Rows
end Go.Proofs.Ytfkdgaeiiejjlaa
