/-
  No cell of these rows narrows 'for every input' (looked for: loops, veiled, ifaces, maps, wideKeys, modest, calm, conditions, laid).
  DERIVED. THE GIVEN ROWS OF THIS SEAT. 7 by the template 'for every input the law returns true; each argument reads behind the call as it read before'; 0 by the template 'total and deterministic' (their statements: YtejgcamogjgdkaaTotals.lean).
  GIVEN WITH THE SEED: the statements are not yours to turn. If you find one false, say at which input.
  Laid BY PROGRAM, IN A SANDBOX (cutbox-rows.mjs): the forced cells as the released guide's own fill.sh prints them over the translation e3c9bca9c3e7ac81… (all of the seat's roots in one cut). By AI agents, Wed Nov 11 2026. No macro, syntax, notation, axiom, sorry.
-/
import Derived.Test.YtejgcamogjgdkaaChecked
import GoSem.Claim
import GoSem.ClaimJoined
import GoSem.ClaimMapViews
import Derived.JoinedTies
import Derived.KernelRfl
namespace Go.Proofs.Ytejgcamogjgdkaa
/- THE CELL 'sum', in the pinned program and in every row, IS THE sha256 OF THE DUMP (.gsa) THAT YtejgcamogjgdkaaProg.lean LOADS. Nothing in Lean hashes anything: it is a label: what it is worth is what the hold of that sum in a sandbox is worth. -/
noncomputable def Try.pinned : Pinned := { name := "ytejgcamogjgdkaa", sum := "e3c9bca9c3e7ac81bc4b0c6c78c982355ae1c3c0687bdab2c154a4e357ef2a09", checked := Try.checked }
namespace Rows
def none {H : Type} : Left H := { results := [], args := [] }

/-- 'laws.FnPadicDigits': WHATEVER THE INPUT: true; the input reads as it did. -/
def fnPadicDigitsSpec : ChangeSpec := { name := "fnPadicDigits", fn := fun _ => fun
  | [d] => { results := [.lit (.bool true)], args := [d] }
  | _ => none }
def fnPadicDigitsRow : OpenClaim := { program := "ytejgcamogjgdkaa", sum := "e3c9bca9c3e7ac81bc4b0c6c78c982355ae1c3c0687bdab2c154a4e357ef2a09", func := "loop.example/g01000/laws.FnPadicDigits", spec := "fnPadicDigits", unfollowed := true, recurses := true, apart := false }
def FnPadicDigitsSaid : Prop := fnPadicDigitsRow.holds Try.pinned (OpenSpec.ofChange fnPadicDigitsSpec)

/-- ITS FALSE NEIGHBOUR: 'it returns false'. Refute it at one input. -/
def fnPadicDigitsWrong : ChangeSpec := { name := "fnPadicDigits", fn := fun _ => fun
  | [d] => { results := [.lit (.bool false)], args := [d] }
  | _ => none }
def FnPadicDigitsWrongFalsely : Prop := fnPadicDigitsRow.holds Try.pinned (OpenSpec.ofChange fnPadicDigitsWrong)

/-- 'laws.FnExactDigitsOf': WHATEVER THE INPUT: true; the input reads as it did. -/
def fnExactDigitsOfSpec : ChangeSpec := { name := "fnExactDigitsOf", fn := fun _ => fun
  | [d] => { results := [.lit (.bool true)], args := [d] }
  | _ => none }
def fnExactDigitsOfRow : OpenClaim := { program := "ytejgcamogjgdkaa", sum := "e3c9bca9c3e7ac81bc4b0c6c78c982355ae1c3c0687bdab2c154a4e357ef2a09", func := "loop.example/g01000/laws.FnExactDigitsOf", spec := "fnExactDigitsOf", unfollowed := true, recurses := true, apart := false }
def FnExactDigitsOfSaid : Prop := fnExactDigitsOfRow.holds Try.pinned (OpenSpec.ofChange fnExactDigitsOfSpec)

/-- ITS FALSE NEIGHBOUR: 'it returns false'. Refute it at one input. -/
def fnExactDigitsOfWrong : ChangeSpec := { name := "fnExactDigitsOf", fn := fun _ => fun
  | [d] => { results := [.lit (.bool false)], args := [d] }
  | _ => none }
def FnExactDigitsOfWrongFalsely : Prop := fnExactDigitsOfRow.holds Try.pinned (OpenSpec.ofChange fnExactDigitsOfWrong)

/-- 'laws.FnExactFromDigits': WHATEVER THE INPUT: true; the input reads as it did. -/
def fnExactFromDigitsSpec : ChangeSpec := { name := "fnExactFromDigits", fn := fun _ => fun
  | [d1, d2, d3] => { results := [.lit (.bool true)], args := [d1, d2, d3] }
  | _ => none }
def fnExactFromDigitsRow : OpenClaim := { program := "ytejgcamogjgdkaa", sum := "e3c9bca9c3e7ac81bc4b0c6c78c982355ae1c3c0687bdab2c154a4e357ef2a09", func := "loop.example/g01000/laws.FnExactFromDigits", spec := "fnExactFromDigits", unfollowed := true, recurses := true, apart := false }
def FnExactFromDigitsSaid : Prop := fnExactFromDigitsRow.holds Try.pinned (OpenSpec.ofChange fnExactFromDigitsSpec)

/-- ITS FALSE NEIGHBOUR: 'it returns false'. Refute it at one input. -/
def fnExactFromDigitsWrong : ChangeSpec := { name := "fnExactFromDigits", fn := fun _ => fun
  | [d1, d2, d3] => { results := [.lit (.bool false)], args := [d1, d2, d3] }
  | _ => none }
def FnExactFromDigitsWrongFalsely : Prop := fnExactFromDigitsRow.holds Try.pinned (OpenSpec.ofChange fnExactFromDigitsWrong)

/-- 'laws.FnExactShiftPadic': WHATEVER THE INPUT: true; the input reads as it did. -/
def fnExactShiftPadicSpec : ChangeSpec := { name := "fnExactShiftPadic", fn := fun _ => fun
  | [d1, d2] => { results := [.lit (.bool true)], args := [d1, d2] }
  | _ => none }
def fnExactShiftPadicRow : OpenClaim := { program := "ytejgcamogjgdkaa", sum := "e3c9bca9c3e7ac81bc4b0c6c78c982355ae1c3c0687bdab2c154a4e357ef2a09", func := "loop.example/g01000/laws.FnExactShiftPadic", spec := "fnExactShiftPadic", apart := false }
def FnExactShiftPadicSaid : Prop := fnExactShiftPadicRow.holds Try.pinned (OpenSpec.ofChange fnExactShiftPadicSpec)

/-- ITS FALSE NEIGHBOUR: 'it returns false'. Refute it at one input. -/
def fnExactShiftPadicWrong : ChangeSpec := { name := "fnExactShiftPadic", fn := fun _ => fun
  | [d1, d2] => { results := [.lit (.bool false)], args := [d1, d2] }
  | _ => none }
def FnExactShiftPadicWrongFalsely : Prop := fnExactShiftPadicRow.holds Try.pinned (OpenSpec.ofChange fnExactShiftPadicWrong)

/-- 'laws.FnExactWholePart': WHATEVER THE INPUT: true; the input reads as it did. -/
def fnExactWholePartSpec : ChangeSpec := { name := "fnExactWholePart", fn := fun _ => fun
  | [d] => { results := [.lit (.bool true)], args := [d] }
  | _ => none }
def fnExactWholePartRow : OpenClaim := { program := "ytejgcamogjgdkaa", sum := "e3c9bca9c3e7ac81bc4b0c6c78c982355ae1c3c0687bdab2c154a4e357ef2a09", func := "loop.example/g01000/laws.FnExactWholePart", spec := "fnExactWholePart", apart := false }
def FnExactWholePartSaid : Prop := fnExactWholePartRow.holds Try.pinned (OpenSpec.ofChange fnExactWholePartSpec)

/-- ITS FALSE NEIGHBOUR: 'it returns false'. Refute it at one input. -/
def fnExactWholePartWrong : ChangeSpec := { name := "fnExactWholePart", fn := fun _ => fun
  | [d] => { results := [.lit (.bool false)], args := [d] }
  | _ => none }
def FnExactWholePartWrongFalsely : Prop := fnExactWholePartRow.holds Try.pinned (OpenSpec.ofChange fnExactWholePartWrong)

/-- 'laws.FnExactFractionOf': WHATEVER THE INPUT: true; the input reads as it did. -/
def fnExactFractionOfSpec : ChangeSpec := { name := "fnExactFractionOf", fn := fun _ => fun
  | [d] => { results := [.lit (.bool true)], args := [d] }
  | _ => none }
def fnExactFractionOfRow : OpenClaim := { program := "ytejgcamogjgdkaa", sum := "e3c9bca9c3e7ac81bc4b0c6c78c982355ae1c3c0687bdab2c154a4e357ef2a09", func := "loop.example/g01000/laws.FnExactFractionOf", spec := "fnExactFractionOf", apart := false }
def FnExactFractionOfSaid : Prop := fnExactFractionOfRow.holds Try.pinned (OpenSpec.ofChange fnExactFractionOfSpec)

/-- ITS FALSE NEIGHBOUR: 'it returns false'. Refute it at one input. -/
def fnExactFractionOfWrong : ChangeSpec := { name := "fnExactFractionOf", fn := fun _ => fun
  | [d] => { results := [.lit (.bool false)], args := [d] }
  | _ => none }
def FnExactFractionOfWrongFalsely : Prop := fnExactFractionOfRow.holds Try.pinned (OpenSpec.ofChange fnExactFractionOfWrong)

/-- 'laws.FnExactSumOfDigits': WHATEVER THE INPUT: true; the input reads as it did. -/
def fnExactSumOfDigitsSpec : ChangeSpec := { name := "fnExactSumOfDigits", fn := fun _ => fun
  | [d] => { results := [.lit (.bool true)], args := [d] }
  | _ => none }
def fnExactSumOfDigitsRow : OpenClaim := { program := "ytejgcamogjgdkaa", sum := "e3c9bca9c3e7ac81bc4b0c6c78c982355ae1c3c0687bdab2c154a4e357ef2a09", func := "loop.example/g01000/laws.FnExactSumOfDigits", spec := "fnExactSumOfDigits", unfollowed := true, recurses := true, apart := false }
def FnExactSumOfDigitsSaid : Prop := fnExactSumOfDigitsRow.holds Try.pinned (OpenSpec.ofChange fnExactSumOfDigitsSpec)

/-- ITS FALSE NEIGHBOUR: 'it returns false'. Refute it at one input. -/
def fnExactSumOfDigitsWrong : ChangeSpec := { name := "fnExactSumOfDigits", fn := fun _ => fun
  | [d] => { results := [.lit (.bool false)], args := [d] }
  | _ => none }
def FnExactSumOfDigitsWrongFalsely : Prop := fnExactSumOfDigitsRow.holds Try.pinned (OpenSpec.ofChange fnExactSumOfDigitsWrong)

/- THE SECOND FORM. 'bulk': how many values and letters a reading holds, each counted each time it is reached (what is shared counts as often as it is met; a slice's spare places count too). A statement '..UptoSaid' is the law's where the arguments, and the package variables that the reading takes, are together of bulk at most 1048576: NARROWER than '..Said'. Prove '..Said' where nothing that the law and all that it calls make is longer than what came in: it says more and counts as full. Else prove '..UptoSaid'. A law counts once. -/
mutual
def uptoBulk {H : Type} : DataW H → Nat
  | .lit (.string bytes) => bytes.length + 1
  | .lit _ => 1
  | .nil => 1
  | .ptr d => uptoBulk d + 1
  | .slice elems spare => uptoBulkAll elems + uptoBulkAll spare + 1
  | .agg parts => uptoBulkAll parts + 1
  | .iface _ d => uptoBulk d + 1
  | .map entries => uptoBulkEntries entries + 1
  | .held _ => 1
def uptoBulkAll {H : Type} : List (DataW H) → Nat
  | [] => 0
  | d :: r => uptoBulk d + uptoBulkAll r
def uptoBulkEntries {H : Type} : List (Lit × DataW H) → Nat
  | [] => 0
  | x :: r => uptoBulkEntry x + uptoBulkEntries r
def uptoBulkEntry {H : Type} : Lit × DataW H → Nat
  | (.string bytes, d) => bytes.length + uptoBulk d + 1
  | (_, d) => uptoBulk d + 1
 end
def uptoSmall : (H : Type) → List (DataW H) → Bool := fun _ ds => decide (uptoBulkAll ds ≤ 1048576)
def OpenSpec.upto (s : _root_.Go.ChangeSpec) : _root_.Go.OpenSpec := { _root_.Go.OpenSpec.ofChange s with cond := some uptoSmall }

/-- 'laws.FnPadicDigits', WHERE WHAT IT READS IS OF BULK AT MOST 1048576: true; the input reads as it did. -/
def fnPadicDigitsUptoRow : OpenClaim := { program := "ytejgcamogjgdkaa", sum := "e3c9bca9c3e7ac81bc4b0c6c78c982355ae1c3c0687bdab2c154a4e357ef2a09", func := "loop.example/g01000/laws.FnPadicDigits", spec := "fnPadicDigits", unfollowed := true, recurses := true, apart := false, narrowed := true }
def FnPadicDigitsUptoSaid : Prop := fnPadicDigitsUptoRow.holds Try.pinned (OpenSpec.upto fnPadicDigitsSpec)

/-- 'laws.FnExactDigitsOf', WHERE WHAT IT READS IS OF BULK AT MOST 1048576: true; the input reads as it did. -/
def fnExactDigitsOfUptoRow : OpenClaim := { program := "ytejgcamogjgdkaa", sum := "e3c9bca9c3e7ac81bc4b0c6c78c982355ae1c3c0687bdab2c154a4e357ef2a09", func := "loop.example/g01000/laws.FnExactDigitsOf", spec := "fnExactDigitsOf", unfollowed := true, recurses := true, apart := false, narrowed := true }
def FnExactDigitsOfUptoSaid : Prop := fnExactDigitsOfUptoRow.holds Try.pinned (OpenSpec.upto fnExactDigitsOfSpec)

/-- 'laws.FnExactFromDigits', WHERE WHAT IT READS IS OF BULK AT MOST 1048576: true; the input reads as it did. -/
def fnExactFromDigitsUptoRow : OpenClaim := { program := "ytejgcamogjgdkaa", sum := "e3c9bca9c3e7ac81bc4b0c6c78c982355ae1c3c0687bdab2c154a4e357ef2a09", func := "loop.example/g01000/laws.FnExactFromDigits", spec := "fnExactFromDigits", unfollowed := true, recurses := true, apart := false, narrowed := true }
def FnExactFromDigitsUptoSaid : Prop := fnExactFromDigitsUptoRow.holds Try.pinned (OpenSpec.upto fnExactFromDigitsSpec)

/-- 'laws.FnExactShiftPadic', WHERE WHAT IT READS IS OF BULK AT MOST 1048576: true; the input reads as it did. -/
def fnExactShiftPadicUptoRow : OpenClaim := { program := "ytejgcamogjgdkaa", sum := "e3c9bca9c3e7ac81bc4b0c6c78c982355ae1c3c0687bdab2c154a4e357ef2a09", func := "loop.example/g01000/laws.FnExactShiftPadic", spec := "fnExactShiftPadic", apart := false, narrowed := true }
def FnExactShiftPadicUptoSaid : Prop := fnExactShiftPadicUptoRow.holds Try.pinned (OpenSpec.upto fnExactShiftPadicSpec)

/-- 'laws.FnExactWholePart', WHERE WHAT IT READS IS OF BULK AT MOST 1048576: true; the input reads as it did. -/
def fnExactWholePartUptoRow : OpenClaim := { program := "ytejgcamogjgdkaa", sum := "e3c9bca9c3e7ac81bc4b0c6c78c982355ae1c3c0687bdab2c154a4e357ef2a09", func := "loop.example/g01000/laws.FnExactWholePart", spec := "fnExactWholePart", apart := false, narrowed := true }
def FnExactWholePartUptoSaid : Prop := fnExactWholePartUptoRow.holds Try.pinned (OpenSpec.upto fnExactWholePartSpec)

/-- 'laws.FnExactFractionOf', WHERE WHAT IT READS IS OF BULK AT MOST 1048576: true; the input reads as it did. -/
def fnExactFractionOfUptoRow : OpenClaim := { program := "ytejgcamogjgdkaa", sum := "e3c9bca9c3e7ac81bc4b0c6c78c982355ae1c3c0687bdab2c154a4e357ef2a09", func := "loop.example/g01000/laws.FnExactFractionOf", spec := "fnExactFractionOf", apart := false, narrowed := true }
def FnExactFractionOfUptoSaid : Prop := fnExactFractionOfUptoRow.holds Try.pinned (OpenSpec.upto fnExactFractionOfSpec)

/-- 'laws.FnExactSumOfDigits', WHERE WHAT IT READS IS OF BULK AT MOST 1048576: true; the input reads as it did. -/
def fnExactSumOfDigitsUptoRow : OpenClaim := { program := "ytejgcamogjgdkaa", sum := "e3c9bca9c3e7ac81bc4b0c6c78c982355ae1c3c0687bdab2c154a4e357ef2a09", func := "loop.example/g01000/laws.FnExactSumOfDigits", spec := "fnExactSumOfDigits", unfollowed := true, recurses := true, apart := false, narrowed := true }
def FnExactSumOfDigitsUptoSaid : Prop := fnExactSumOfDigitsUptoRow.holds Try.pinned (OpenSpec.upto fnExactSumOfDigitsSpec)

end Rows
end Go.Proofs.Ytejgcamogjgdkaa
