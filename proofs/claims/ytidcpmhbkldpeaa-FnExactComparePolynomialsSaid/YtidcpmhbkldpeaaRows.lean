/-
  No cell of these rows narrows 'for every input' (looked for: loops, veiled, ifaces, maps, wideKeys, modest, calm, conditions, laid).
  DERIVED. THE GIVEN ROWS OF THIS SEAT. 8 by the template 'for every input the law returns true; each argument reads behind the call as it read before'; 0 by the template 'total and deterministic' (their statements: YtidcpmhbkldpeaaTotals.lean).
  GIVEN WITH THE SEED: the statements are not yours to turn. If you find one false, say at which input.
  Laid BY PROGRAM, IN A SANDBOX (cutbox-rows.mjs): the forced cells as the released guide's own fill.sh prints them over the translation b5e5e2620d73bd36… (all of the seat's roots in one cut). By AI agents, Wed Nov 11 2026. No macro, syntax, notation, axiom, sorry.
-/
import Derived.Test.YtidcpmhbkldpeaaChecked
import GoSem.Claim
import GoSem.ClaimJoined
import GoSem.ClaimMapViews
import Derived.JoinedTies
import Derived.KernelRfl
namespace Go.Proofs.Ytidcpmhbkldpeaa
/- THE CELL 'sum', in the pinned program and in every row, IS THE sha256 OF THE DUMP (.gsa) THAT YtidcpmhbkldpeaaProg.lean LOADS. Nothing in Lean hashes anything: it is a label: what it is worth is what the hold of that sum in a sandbox is worth. -/
noncomputable def Try.pinned : Pinned := { name := "ytidcpmhbkldpeaa", sum := "b5e5e2620d73bd36efd1bea3b1bd118c09cdc23c0718a2eaf22f4f0733e5294f", checked := Try.checked }
namespace Rows
def none {H : Type} : Left H := { results := [], args := [] }

/-- 'laws.FnExactIsIrreducible': WHATEVER THE INPUT: true; the input reads as it did. -/
def fnExactIsIrreducibleSpec : ChangeSpec := { name := "fnExactIsIrreducible", fn := fun _ => fun
  | [d1, d2] => { results := [.lit (.bool true)], args := [d1, d2] }
  | _ => none }
def fnExactIsIrreducibleRow : OpenClaim := { program := "ytidcpmhbkldpeaa", sum := "b5e5e2620d73bd36efd1bea3b1bd118c09cdc23c0718a2eaf22f4f0733e5294f", func := "loop.example/g01000/laws.FnExactIsIrreducible", spec := "fnExactIsIrreducible", unfollowed := true, recurses := true, leaving := true, apart := false }
def FnExactIsIrreducibleSaid : Prop := fnExactIsIrreducibleRow.holds Try.pinned (OpenSpec.ofChange fnExactIsIrreducibleSpec)

/-- ITS FALSE NEIGHBOUR: 'it returns false'. Refute it at one input. -/
def fnExactIsIrreducibleWrong : ChangeSpec := { name := "fnExactIsIrreducible", fn := fun _ => fun
  | [d1, d2] => { results := [.lit (.bool false)], args := [d1, d2] }
  | _ => none }
def FnExactIsIrreducibleWrongFalsely : Prop := fnExactIsIrreducibleRow.holds Try.pinned (OpenSpec.ofChange fnExactIsIrreducibleWrong)

/-- 'laws.FnExactFactorModular': WHATEVER THE INPUT: true; the input reads as it did. -/
def fnExactFactorModularSpec : ChangeSpec := { name := "fnExactFactorModular", fn := fun _ => fun
  | [d1, d2] => { results := [.lit (.bool true)], args := [d1, d2] }
  | _ => none }
def fnExactFactorModularRow : OpenClaim := { program := "ytidcpmhbkldpeaa", sum := "b5e5e2620d73bd36efd1bea3b1bd118c09cdc23c0718a2eaf22f4f0733e5294f", func := "loop.example/g01000/laws.FnExactFactorModular", spec := "fnExactFactorModular", unfollowed := true, recurses := true, leaving := true, apart := false }
def FnExactFactorModularSaid : Prop := fnExactFactorModularRow.holds Try.pinned (OpenSpec.ofChange fnExactFactorModularSpec)

/-- ITS FALSE NEIGHBOUR: 'it returns false'. Refute it at one input. -/
def fnExactFactorModularWrong : ChangeSpec := { name := "fnExactFactorModular", fn := fun _ => fun
  | [d1, d2] => { results := [.lit (.bool false)], args := [d1, d2] }
  | _ => none }
def FnExactFactorModularWrongFalsely : Prop := fnExactFactorModularRow.holds Try.pinned (OpenSpec.ofChange fnExactFactorModularWrong)

/-- 'laws.FnExactDegreesOf': WHATEVER THE INPUT: true; the input reads as it did. -/
def fnExactDegreesOfSpec : ChangeSpec := { name := "fnExactDegreesOf", fn := fun _ => fun
  | [d1, d2] => { results := [.lit (.bool true)], args := [d1, d2] }
  | _ => none }
def fnExactDegreesOfRow : OpenClaim := { program := "ytidcpmhbkldpeaa", sum := "b5e5e2620d73bd36efd1bea3b1bd118c09cdc23c0718a2eaf22f4f0733e5294f", func := "loop.example/g01000/laws.FnExactDegreesOf", spec := "fnExactDegreesOf", unfollowed := true, recurses := true, leaving := true, apart := false }
def FnExactDegreesOfSaid : Prop := fnExactDegreesOfRow.holds Try.pinned (OpenSpec.ofChange fnExactDegreesOfSpec)

/-- ITS FALSE NEIGHBOUR: 'it returns false'. Refute it at one input. -/
def fnExactDegreesOfWrong : ChangeSpec := { name := "fnExactDegreesOf", fn := fun _ => fun
  | [d1, d2] => { results := [.lit (.bool false)], args := [d1, d2] }
  | _ => none }
def FnExactDegreesOfWrongFalsely : Prop := fnExactDegreesOfRow.holds Try.pinned (OpenSpec.ofChange fnExactDegreesOfWrong)

/-- 'laws.FnExactProductOf': WHATEVER THE INPUT: true; the input reads as it did. -/
def fnExactProductOfSpec : ChangeSpec := { name := "fnExactProductOf", fn := fun _ => fun
  | [d1, d2] => { results := [.lit (.bool true)], args := [d1, d2] }
  | _ => none }
def fnExactProductOfRow : OpenClaim := { program := "ytidcpmhbkldpeaa", sum := "b5e5e2620d73bd36efd1bea3b1bd118c09cdc23c0718a2eaf22f4f0733e5294f", func := "loop.example/g01000/laws.FnExactProductOf", spec := "fnExactProductOf", apart := false }
def FnExactProductOfSaid : Prop := fnExactProductOfRow.holds Try.pinned (OpenSpec.ofChange fnExactProductOfSpec)

/-- ITS FALSE NEIGHBOUR: 'it returns false'. Refute it at one input. -/
def fnExactProductOfWrong : ChangeSpec := { name := "fnExactProductOf", fn := fun _ => fun
  | [d1, d2] => { results := [.lit (.bool false)], args := [d1, d2] }
  | _ => none }
def FnExactProductOfWrongFalsely : Prop := fnExactProductOfRow.holds Try.pinned (OpenSpec.ofChange fnExactProductOfWrong)

/-- 'laws.FnExactSquareFreePart': WHATEVER THE INPUT: true; the input reads as it did. -/
def fnExactSquareFreePartSpec : ChangeSpec := { name := "fnExactSquareFreePart", fn := fun _ => fun
  | [d1, d2] => { results := [.lit (.bool true)], args := [d1, d2] }
  | _ => none }
def fnExactSquareFreePartRow : OpenClaim := { program := "ytidcpmhbkldpeaa", sum := "b5e5e2620d73bd36efd1bea3b1bd118c09cdc23c0718a2eaf22f4f0733e5294f", func := "loop.example/g01000/laws.FnExactSquareFreePart", spec := "fnExactSquareFreePart", unfollowed := true, recurses := true, leaving := true, apart := false }
def FnExactSquareFreePartSaid : Prop := fnExactSquareFreePartRow.holds Try.pinned (OpenSpec.ofChange fnExactSquareFreePartSpec)

/-- ITS FALSE NEIGHBOUR: 'it returns false'. Refute it at one input. -/
def fnExactSquareFreePartWrong : ChangeSpec := { name := "fnExactSquareFreePart", fn := fun _ => fun
  | [d1, d2] => { results := [.lit (.bool false)], args := [d1, d2] }
  | _ => none }
def FnExactSquareFreePartWrongFalsely : Prop := fnExactSquareFreePartRow.holds Try.pinned (OpenSpec.ofChange fnExactSquareFreePartWrong)

/-- 'laws.FnExactSmallestFactor': WHATEVER THE INPUT: true; the input reads as it did. -/
def fnExactSmallestFactorSpec : ChangeSpec := { name := "fnExactSmallestFactor", fn := fun _ => fun
  | [d1, d2] => { results := [.lit (.bool true)], args := [d1, d2] }
  | _ => none }
def fnExactSmallestFactorRow : OpenClaim := { program := "ytidcpmhbkldpeaa", sum := "b5e5e2620d73bd36efd1bea3b1bd118c09cdc23c0718a2eaf22f4f0733e5294f", func := "loop.example/g01000/laws.FnExactSmallestFactor", spec := "fnExactSmallestFactor", unfollowed := true, recurses := true, leaving := true, apart := false }
def FnExactSmallestFactorSaid : Prop := fnExactSmallestFactorRow.holds Try.pinned (OpenSpec.ofChange fnExactSmallestFactorSpec)

/-- ITS FALSE NEIGHBOUR: 'it returns false'. Refute it at one input. -/
def fnExactSmallestFactorWrong : ChangeSpec := { name := "fnExactSmallestFactor", fn := fun _ => fun
  | [d1, d2] => { results := [.lit (.bool false)], args := [d1, d2] }
  | _ => none }
def FnExactSmallestFactorWrongFalsely : Prop := fnExactSmallestFactorRow.holds Try.pinned (OpenSpec.ofChange fnExactSmallestFactorWrong)

/-- 'laws.FnExactCountRoots': WHATEVER THE INPUT: true; the input reads as it did. -/
def fnExactCountRootsSpec : ChangeSpec := { name := "fnExactCountRoots", fn := fun _ => fun
  | [d1, d2] => { results := [.lit (.bool true)], args := [d1, d2] }
  | _ => none }
def fnExactCountRootsRow : OpenClaim := { program := "ytidcpmhbkldpeaa", sum := "b5e5e2620d73bd36efd1bea3b1bd118c09cdc23c0718a2eaf22f4f0733e5294f", func := "loop.example/g01000/laws.FnExactCountRoots", spec := "fnExactCountRoots", unfollowed := true, recurses := true, leaving := true, apart := false }
def FnExactCountRootsSaid : Prop := fnExactCountRootsRow.holds Try.pinned (OpenSpec.ofChange fnExactCountRootsSpec)

/-- ITS FALSE NEIGHBOUR: 'it returns false'. Refute it at one input. -/
def fnExactCountRootsWrong : ChangeSpec := { name := "fnExactCountRoots", fn := fun _ => fun
  | [d1, d2] => { results := [.lit (.bool false)], args := [d1, d2] }
  | _ => none }
def FnExactCountRootsWrongFalsely : Prop := fnExactCountRootsRow.holds Try.pinned (OpenSpec.ofChange fnExactCountRootsWrong)

/-- 'laws.FnExactComparePolynomials': WHATEVER THE INPUT: true; the input reads as it did. -/
def fnExactComparePolynomialsSpec : ChangeSpec := { name := "fnExactComparePolynomials", fn := fun _ => fun
  | [d1, d2, d3] => { results := [.lit (.bool true)], args := [d1, d2, d3] }
  | _ => none }
def fnExactComparePolynomialsRow : OpenClaim := { program := "ytidcpmhbkldpeaa", sum := "b5e5e2620d73bd36efd1bea3b1bd118c09cdc23c0718a2eaf22f4f0733e5294f", func := "loop.example/g01000/laws.FnExactComparePolynomials", spec := "fnExactComparePolynomials", unfollowed := true, recurses := true, leaving := true, apart := false }
def FnExactComparePolynomialsSaid : Prop := fnExactComparePolynomialsRow.holds Try.pinned (OpenSpec.ofChange fnExactComparePolynomialsSpec)

/-- ITS FALSE NEIGHBOUR: 'it returns false'. Refute it at one input. -/
def fnExactComparePolynomialsWrong : ChangeSpec := { name := "fnExactComparePolynomials", fn := fun _ => fun
  | [d1, d2, d3] => { results := [.lit (.bool false)], args := [d1, d2, d3] }
  | _ => none }
def FnExactComparePolynomialsWrongFalsely : Prop := fnExactComparePolynomialsRow.holds Try.pinned (OpenSpec.ofChange fnExactComparePolynomialsWrong)

/- THE SECOND FORM. 'bulk': how many values and letters a reading holds, each counted each time it is reached (what is shared counts as often as it is met; a slice's spare places count too). A statement '..UptoSaid' is the law's where the arguments, and the package variables that the reading takes, are together of bulk at most 1048576: NARROWER than '..Said'. Prove '..Said' where nothing that the law and all that it calls make is longer than what came in: it says more and counts as full. Else prove '..UptoSaid'. A law counts once. -/
mutual
def uptoBulk {H : Type} : DataW H → Nat
  | .lit (.string bytes) => bytes.length + 1
  | .lit _ => 1
  | .nil => 1
  | .ptr d => uptoBulk d + 1
  | .slice elems spare => uptoBulkAll elems + uptoBulkAll spare + 1
  | .agg parts => uptoBulkAll parts + 1
  | .iface _ d => uptoBulk d + 1
  | .map entries => uptoBulkEntries entries + 1
  | .held _ => 1
def uptoBulkAll {H : Type} : List (DataW H) → Nat
  | [] => 0
  | d :: r => uptoBulk d + uptoBulkAll r
def uptoBulkEntries {H : Type} : List (Lit × DataW H) → Nat
  | [] => 0
  | x :: r => uptoBulkEntry x + uptoBulkEntries r
def uptoBulkEntry {H : Type} : Lit × DataW H → Nat
  | (.string bytes, d) => bytes.length + uptoBulk d + 1
  | (_, d) => uptoBulk d + 1
 end
def uptoSmall : (H : Type) → List (DataW H) → Bool := fun _ ds => decide (uptoBulkAll ds ≤ 1048576)
def OpenSpec.upto (s : _root_.Go.ChangeSpec) : _root_.Go.OpenSpec := { _root_.Go.OpenSpec.ofChange s with cond := some uptoSmall }

/-- 'laws.FnExactIsIrreducible', WHERE WHAT IT READS IS OF BULK AT MOST 1048576: true; the input reads as it did. -/
def fnExactIsIrreducibleUptoRow : OpenClaim := { program := "ytidcpmhbkldpeaa", sum := "b5e5e2620d73bd36efd1bea3b1bd118c09cdc23c0718a2eaf22f4f0733e5294f", func := "loop.example/g01000/laws.FnExactIsIrreducible", spec := "fnExactIsIrreducible", unfollowed := true, recurses := true, leaving := true, apart := false, narrowed := true }
def FnExactIsIrreducibleUptoSaid : Prop := fnExactIsIrreducibleUptoRow.holds Try.pinned (OpenSpec.upto fnExactIsIrreducibleSpec)

/-- 'laws.FnExactFactorModular', WHERE WHAT IT READS IS OF BULK AT MOST 1048576: true; the input reads as it did. -/
def fnExactFactorModularUptoRow : OpenClaim := { program := "ytidcpmhbkldpeaa", sum := "b5e5e2620d73bd36efd1bea3b1bd118c09cdc23c0718a2eaf22f4f0733e5294f", func := "loop.example/g01000/laws.FnExactFactorModular", spec := "fnExactFactorModular", unfollowed := true, recurses := true, leaving := true, apart := false, narrowed := true }
def FnExactFactorModularUptoSaid : Prop := fnExactFactorModularUptoRow.holds Try.pinned (OpenSpec.upto fnExactFactorModularSpec)

/-- 'laws.FnExactDegreesOf', WHERE WHAT IT READS IS OF BULK AT MOST 1048576: true; the input reads as it did. -/
def fnExactDegreesOfUptoRow : OpenClaim := { program := "ytidcpmhbkldpeaa", sum := "b5e5e2620d73bd36efd1bea3b1bd118c09cdc23c0718a2eaf22f4f0733e5294f", func := "loop.example/g01000/laws.FnExactDegreesOf", spec := "fnExactDegreesOf", unfollowed := true, recurses := true, leaving := true, apart := false, narrowed := true }
def FnExactDegreesOfUptoSaid : Prop := fnExactDegreesOfUptoRow.holds Try.pinned (OpenSpec.upto fnExactDegreesOfSpec)

/-- 'laws.FnExactProductOf', WHERE WHAT IT READS IS OF BULK AT MOST 1048576: true; the input reads as it did. -/
def fnExactProductOfUptoRow : OpenClaim := { program := "ytidcpmhbkldpeaa", sum := "b5e5e2620d73bd36efd1bea3b1bd118c09cdc23c0718a2eaf22f4f0733e5294f", func := "loop.example/g01000/laws.FnExactProductOf", spec := "fnExactProductOf", apart := false, narrowed := true }
def FnExactProductOfUptoSaid : Prop := fnExactProductOfUptoRow.holds Try.pinned (OpenSpec.upto fnExactProductOfSpec)

/-- 'laws.FnExactSquareFreePart', WHERE WHAT IT READS IS OF BULK AT MOST 1048576: true; the input reads as it did. -/
def fnExactSquareFreePartUptoRow : OpenClaim := { program := "ytidcpmhbkldpeaa", sum := "b5e5e2620d73bd36efd1bea3b1bd118c09cdc23c0718a2eaf22f4f0733e5294f", func := "loop.example/g01000/laws.FnExactSquareFreePart", spec := "fnExactSquareFreePart", unfollowed := true, recurses := true, leaving := true, apart := false, narrowed := true }
def FnExactSquareFreePartUptoSaid : Prop := fnExactSquareFreePartUptoRow.holds Try.pinned (OpenSpec.upto fnExactSquareFreePartSpec)

/-- 'laws.FnExactSmallestFactor', WHERE WHAT IT READS IS OF BULK AT MOST 1048576: true; the input reads as it did. -/
def fnExactSmallestFactorUptoRow : OpenClaim := { program := "ytidcpmhbkldpeaa", sum := "b5e5e2620d73bd36efd1bea3b1bd118c09cdc23c0718a2eaf22f4f0733e5294f", func := "loop.example/g01000/laws.FnExactSmallestFactor", spec := "fnExactSmallestFactor", unfollowed := true, recurses := true, leaving := true, apart := false, narrowed := true }
def FnExactSmallestFactorUptoSaid : Prop := fnExactSmallestFactorUptoRow.holds Try.pinned (OpenSpec.upto fnExactSmallestFactorSpec)

/-- 'laws.FnExactCountRoots', WHERE WHAT IT READS IS OF BULK AT MOST 1048576: true; the input reads as it did. -/
def fnExactCountRootsUptoRow : OpenClaim := { program := "ytidcpmhbkldpeaa", sum := "b5e5e2620d73bd36efd1bea3b1bd118c09cdc23c0718a2eaf22f4f0733e5294f", func := "loop.example/g01000/laws.FnExactCountRoots", spec := "fnExactCountRoots", unfollowed := true, recurses := true, leaving := true, apart := false, narrowed := true }
def FnExactCountRootsUptoSaid : Prop := fnExactCountRootsUptoRow.holds Try.pinned (OpenSpec.upto fnExactCountRootsSpec)

/-- 'laws.FnExactComparePolynomials', WHERE WHAT IT READS IS OF BULK AT MOST 1048576: true; the input reads as it did. -/
def fnExactComparePolynomialsUptoRow : OpenClaim := { program := "ytidcpmhbkldpeaa", sum := "b5e5e2620d73bd36efd1bea3b1bd118c09cdc23c0718a2eaf22f4f0733e5294f", func := "loop.example/g01000/laws.FnExactComparePolynomials", spec := "fnExactComparePolynomials", unfollowed := true, recurses := true, leaving := true, apart := false, narrowed := true }
def FnExactComparePolynomialsUptoSaid : Prop := fnExactComparePolynomialsUptoRow.holds Try.pinned (OpenSpec.upto fnExactComparePolynomialsSpec)

end Rows
end Go.Proofs.Ytidcpmhbkldpeaa
