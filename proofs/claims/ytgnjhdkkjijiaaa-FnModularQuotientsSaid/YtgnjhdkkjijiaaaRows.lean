/-
  No cell of these rows narrows 'for every input' (looked for: loops, veiled, ifaces, maps, wideKeys, modest, calm, conditions, laid).
  DERIVED. THE GIVEN ROWS OF THIS SEAT. 12 by the template 'for every input the law returns true; each argument reads behind the call as it read before'; 0 by the template 'total and deterministic' (their statements: YtgnjhdkkjijiaaaTotals.lean).
  GIVEN WITH THE SEED: the statements are not yours to turn. If you find one false, say at which input.
  Laid BY PROGRAM, IN A SANDBOX (cutbox-rows.mjs): the forced cells as the released guide's own fill.sh prints them over the translation d73f202f947c34e0… (all of the seat's roots in one cut). By AI agents, Wed Nov 11 2026. No macro, syntax, notation, axiom, sorry.
-/
import Derived.Test.YtgnjhdkkjijiaaaChecked
import GoSem.Claim
import GoSem.ClaimJoined
import GoSem.ClaimMapViews
import Derived.JoinedTies
import Derived.KernelRfl
namespace Go.Proofs.Ytgnjhdkkjijiaaa
/- THE CELL 'sum', in the pinned program and in every row, IS THE sha256 OF THE DUMP (.gsa) THAT YtgnjhdkkjijiaaaProg.lean LOADS. Nothing in Lean hashes anything: it is a label: what it is worth is what the hold of that sum in a sandbox is worth. -/
noncomputable def Try.pinned : Pinned := { name := "ytgnjhdkkjijiaaa", sum := "d73f202f947c34e029e7ea9e6eb44770b4a09b7ab7f39c171cea1c597014c9cc", checked := Try.checked }
namespace Rows
def none {H : Type} : Left H := { results := [], args := [] }

/-- 'laws.FnModularQuotients': WHATEVER THE INPUT: true; the input reads as it did. -/
def fnModularQuotientsSpec : ChangeSpec := { name := "fnModularQuotients", fn := fun _ => fun
  | [d] => { results := [.lit (.bool true)], args := [d] }
  | _ => none }
def fnModularQuotientsRow : OpenClaim := { program := "ytgnjhdkkjijiaaa", sum := "d73f202f947c34e029e7ea9e6eb44770b4a09b7ab7f39c171cea1c597014c9cc", func := "loop.example/g01000/laws.FnModularQuotients", spec := "fnModularQuotients", unfollowed := true, recurses := true, apart := false }
def FnModularQuotientsSaid : Prop := fnModularQuotientsRow.holds Try.pinned (OpenSpec.ofChange fnModularQuotientsSpec)

/-- ITS FALSE NEIGHBOUR: 'it returns false'. Refute it at one input. -/
def fnModularQuotientsWrong : ChangeSpec := { name := "fnModularQuotients", fn := fun _ => fun
  | [d] => { results := [.lit (.bool false)], args := [d] }
  | _ => none }
def FnModularQuotientsWrongFalsely : Prop := fnModularQuotientsRow.holds Try.pinned (OpenSpec.ofChange fnModularQuotientsWrong)

/-- 'laws.FnModularDivisors': WHATEVER THE INPUT: true; the input reads as it did. -/
def fnModularDivisorsSpec : ChangeSpec := { name := "fnModularDivisors", fn := fun _ => fun
  | [d] => { results := [.lit (.bool true)], args := [d] }
  | _ => none }
def fnModularDivisorsRow : OpenClaim := { program := "ytgnjhdkkjijiaaa", sum := "d73f202f947c34e029e7ea9e6eb44770b4a09b7ab7f39c171cea1c597014c9cc", func := "loop.example/g01000/laws.FnModularDivisors", spec := "fnModularDivisors", unfollowed := true, recurses := true, apart := false }
def FnModularDivisorsSaid : Prop := fnModularDivisorsRow.holds Try.pinned (OpenSpec.ofChange fnModularDivisorsSpec)

/-- ITS FALSE NEIGHBOUR: 'it returns false'. Refute it at one input. -/
def fnModularDivisorsWrong : ChangeSpec := { name := "fnModularDivisors", fn := fun _ => fun
  | [d] => { results := [.lit (.bool false)], args := [d] }
  | _ => none }
def FnModularDivisorsWrongFalsely : Prop := fnModularDivisorsRow.holds Try.pinned (OpenSpec.ofChange fnModularDivisorsWrong)

/-- 'laws.FnModularRoots': WHATEVER THE INPUT: true; the input reads as it did. -/
def fnModularRootsSpec : ChangeSpec := { name := "fnModularRoots", fn := fun _ => fun
  | [d] => { results := [.lit (.bool true)], args := [d] }
  | _ => none }
def fnModularRootsRow : OpenClaim := { program := "ytgnjhdkkjijiaaa", sum := "d73f202f947c34e029e7ea9e6eb44770b4a09b7ab7f39c171cea1c597014c9cc", func := "loop.example/g01000/laws.FnModularRoots", spec := "fnModularRoots", unfollowed := true, recurses := true, apart := false }
def FnModularRootsSaid : Prop := fnModularRootsRow.holds Try.pinned (OpenSpec.ofChange fnModularRootsSpec)

/-- ITS FALSE NEIGHBOUR: 'it returns false'. Refute it at one input. -/
def fnModularRootsWrong : ChangeSpec := { name := "fnModularRoots", fn := fun _ => fun
  | [d] => { results := [.lit (.bool false)], args := [d] }
  | _ => none }
def FnModularRootsWrongFalsely : Prop := fnModularRootsRow.holds Try.pinned (OpenSpec.ofChange fnModularRootsWrong)

/-- 'laws.FnExactIsModular': WHATEVER THE INPUT: true; the input reads as it did. -/
def fnExactIsModularSpec : ChangeSpec := { name := "fnExactIsModular", fn := fun _ => fun
  | [d1, d2] => { results := [.lit (.bool true)], args := [d1, d2] }
  | _ => none }
def fnExactIsModularRow : OpenClaim := { program := "ytgnjhdkkjijiaaa", sum := "d73f202f947c34e029e7ea9e6eb44770b4a09b7ab7f39c171cea1c597014c9cc", func := "loop.example/g01000/laws.FnExactIsModular", spec := "fnExactIsModular", apart := false }
def FnExactIsModularSaid : Prop := fnExactIsModularRow.holds Try.pinned (OpenSpec.ofChange fnExactIsModularSpec)

/-- ITS FALSE NEIGHBOUR: 'it returns false'. Refute it at one input. -/
def fnExactIsModularWrong : ChangeSpec := { name := "fnExactIsModular", fn := fun _ => fun
  | [d1, d2] => { results := [.lit (.bool false)], args := [d1, d2] }
  | _ => none }
def FnExactIsModularWrongFalsely : Prop := fnExactIsModularRow.holds Try.pinned (OpenSpec.ofChange fnExactIsModularWrong)

/-- 'laws.FnExactReducePolynomial': WHATEVER THE INPUT: true; the input reads as it did. -/
def fnExactReducePolynomialSpec : ChangeSpec := { name := "fnExactReducePolynomial", fn := fun _ => fun
  | [d1, d2] => { results := [.lit (.bool true)], args := [d1, d2] }
  | _ => none }
def fnExactReducePolynomialRow : OpenClaim := { program := "ytgnjhdkkjijiaaa", sum := "d73f202f947c34e029e7ea9e6eb44770b4a09b7ab7f39c171cea1c597014c9cc", func := "loop.example/g01000/laws.FnExactReducePolynomial", spec := "fnExactReducePolynomial", apart := false }
def FnExactReducePolynomialSaid : Prop := fnExactReducePolynomialRow.holds Try.pinned (OpenSpec.ofChange fnExactReducePolynomialSpec)

/-- ITS FALSE NEIGHBOUR: 'it returns false'. Refute it at one input. -/
def fnExactReducePolynomialWrong : ChangeSpec := { name := "fnExactReducePolynomial", fn := fun _ => fun
  | [d1, d2] => { results := [.lit (.bool false)], args := [d1, d2] }
  | _ => none }
def FnExactReducePolynomialWrongFalsely : Prop := fnExactReducePolynomialRow.holds Try.pinned (OpenSpec.ofChange fnExactReducePolynomialWrong)

/-- 'laws.FnExactMultiplyModular': WHATEVER THE INPUT: true; the input reads as it did. -/
def fnExactMultiplyModularSpec : ChangeSpec := { name := "fnExactMultiplyModular", fn := fun _ => fun
  | [d1, d2, d3] => { results := [.lit (.bool true)], args := [d1, d2, d3] }
  | _ => none }
def fnExactMultiplyModularRow : OpenClaim := { program := "ytgnjhdkkjijiaaa", sum := "d73f202f947c34e029e7ea9e6eb44770b4a09b7ab7f39c171cea1c597014c9cc", func := "loop.example/g01000/laws.FnExactMultiplyModular", spec := "fnExactMultiplyModular", apart := false }
def FnExactMultiplyModularSaid : Prop := fnExactMultiplyModularRow.holds Try.pinned (OpenSpec.ofChange fnExactMultiplyModularSpec)

/-- ITS FALSE NEIGHBOUR: 'it returns false'. Refute it at one input. -/
def fnExactMultiplyModularWrong : ChangeSpec := { name := "fnExactMultiplyModular", fn := fun _ => fun
  | [d1, d2, d3] => { results := [.lit (.bool false)], args := [d1, d2, d3] }
  | _ => none }
def FnExactMultiplyModularWrongFalsely : Prop := fnExactMultiplyModularRow.holds Try.pinned (OpenSpec.ofChange fnExactMultiplyModularWrong)

/-- 'laws.FnExactDivideModular': WHATEVER THE INPUT: true; the input reads as it did. -/
def fnExactDivideModularSpec : ChangeSpec := { name := "fnExactDivideModular", fn := fun _ => fun
  | [d1, d2, d3] => { results := [.lit (.bool true)], args := [d1, d2, d3] }
  | _ => none }
def fnExactDivideModularRow : OpenClaim := { program := "ytgnjhdkkjijiaaa", sum := "d73f202f947c34e029e7ea9e6eb44770b4a09b7ab7f39c171cea1c597014c9cc", func := "loop.example/g01000/laws.FnExactDivideModular", spec := "fnExactDivideModular", unfollowed := true, recurses := true, apart := false }
def FnExactDivideModularSaid : Prop := fnExactDivideModularRow.holds Try.pinned (OpenSpec.ofChange fnExactDivideModularSpec)

/-- ITS FALSE NEIGHBOUR: 'it returns false'. Refute it at one input. -/
def fnExactDivideModularWrong : ChangeSpec := { name := "fnExactDivideModular", fn := fun _ => fun
  | [d1, d2, d3] => { results := [.lit (.bool false)], args := [d1, d2, d3] }
  | _ => none }
def FnExactDivideModularWrongFalsely : Prop := fnExactDivideModularRow.holds Try.pinned (OpenSpec.ofChange fnExactDivideModularWrong)

/-- 'laws.FnExactCommonModular': WHATEVER THE INPUT: true; the input reads as it did. -/
def fnExactCommonModularSpec : ChangeSpec := { name := "fnExactCommonModular", fn := fun _ => fun
  | [d1, d2, d3] => { results := [.lit (.bool true)], args := [d1, d2, d3] }
  | _ => none }
def fnExactCommonModularRow : OpenClaim := { program := "ytgnjhdkkjijiaaa", sum := "d73f202f947c34e029e7ea9e6eb44770b4a09b7ab7f39c171cea1c597014c9cc", func := "loop.example/g01000/laws.FnExactCommonModular", spec := "fnExactCommonModular", unfollowed := true, recurses := true, apart := false }
def FnExactCommonModularSaid : Prop := fnExactCommonModularRow.holds Try.pinned (OpenSpec.ofChange fnExactCommonModularSpec)

/-- ITS FALSE NEIGHBOUR: 'it returns false'. Refute it at one input. -/
def fnExactCommonModularWrong : ChangeSpec := { name := "fnExactCommonModular", fn := fun _ => fun
  | [d1, d2, d3] => { results := [.lit (.bool false)], args := [d1, d2, d3] }
  | _ => none }
def FnExactCommonModularWrongFalsely : Prop := fnExactCommonModularRow.holds Try.pinned (OpenSpec.ofChange fnExactCommonModularWrong)

/-- 'laws.FnExactPowerOfX': WHATEVER THE INPUT: true; the input reads as it did. -/
def fnExactPowerOfXSpec : ChangeSpec := { name := "fnExactPowerOfX", fn := fun _ => fun
  | [d1, d2, d3] => { results := [.lit (.bool true)], args := [d1, d2, d3] }
  | _ => none }
def fnExactPowerOfXRow : OpenClaim := { program := "ytgnjhdkkjijiaaa", sum := "d73f202f947c34e029e7ea9e6eb44770b4a09b7ab7f39c171cea1c597014c9cc", func := "loop.example/g01000/laws.FnExactPowerOfX", spec := "fnExactPowerOfX", unfollowed := true, recurses := true, apart := false }
def FnExactPowerOfXSaid : Prop := fnExactPowerOfXRow.holds Try.pinned (OpenSpec.ofChange fnExactPowerOfXSpec)

/-- ITS FALSE NEIGHBOUR: 'it returns false'. Refute it at one input. -/
def fnExactPowerOfXWrong : ChangeSpec := { name := "fnExactPowerOfX", fn := fun _ => fun
  | [d1, d2, d3] => { results := [.lit (.bool false)], args := [d1, d2, d3] }
  | _ => none }
def FnExactPowerOfXWrongFalsely : Prop := fnExactPowerOfXRow.holds Try.pinned (OpenSpec.ofChange fnExactPowerOfXWrong)

/-- 'laws.FnExactRootsModular': WHATEVER THE INPUT: true; the input reads as it did. -/
def fnExactRootsModularSpec : ChangeSpec := { name := "fnExactRootsModular", fn := fun _ => fun
  | [d1, d2] => { results := [.lit (.bool true)], args := [d1, d2] }
  | _ => none }
def fnExactRootsModularRow : OpenClaim := { program := "ytgnjhdkkjijiaaa", sum := "d73f202f947c34e029e7ea9e6eb44770b4a09b7ab7f39c171cea1c597014c9cc", func := "loop.example/g01000/laws.FnExactRootsModular", spec := "fnExactRootsModular", unfollowed := true, recurses := true, apart := false }
def FnExactRootsModularSaid : Prop := fnExactRootsModularRow.holds Try.pinned (OpenSpec.ofChange fnExactRootsModularSpec)

/-- ITS FALSE NEIGHBOUR: 'it returns false'. Refute it at one input. -/
def fnExactRootsModularWrong : ChangeSpec := { name := "fnExactRootsModular", fn := fun _ => fun
  | [d1, d2] => { results := [.lit (.bool false)], args := [d1, d2] }
  | _ => none }
def FnExactRootsModularWrongFalsely : Prop := fnExactRootsModularRow.holds Try.pinned (OpenSpec.ofChange fnExactRootsModularWrong)

/-- 'laws.FnExactDerivativeModular': WHATEVER THE INPUT: true; the input reads as it did. -/
def fnExactDerivativeModularSpec : ChangeSpec := { name := "fnExactDerivativeModular", fn := fun _ => fun
  | [d1, d2] => { results := [.lit (.bool true)], args := [d1, d2] }
  | _ => none }
def fnExactDerivativeModularRow : OpenClaim := { program := "ytgnjhdkkjijiaaa", sum := "d73f202f947c34e029e7ea9e6eb44770b4a09b7ab7f39c171cea1c597014c9cc", func := "loop.example/g01000/laws.FnExactDerivativeModular", spec := "fnExactDerivativeModular", apart := false }
def FnExactDerivativeModularSaid : Prop := fnExactDerivativeModularRow.holds Try.pinned (OpenSpec.ofChange fnExactDerivativeModularSpec)

/-- ITS FALSE NEIGHBOUR: 'it returns false'. Refute it at one input. -/
def fnExactDerivativeModularWrong : ChangeSpec := { name := "fnExactDerivativeModular", fn := fun _ => fun
  | [d1, d2] => { results := [.lit (.bool false)], args := [d1, d2] }
  | _ => none }
def FnExactDerivativeModularWrongFalsely : Prop := fnExactDerivativeModularRow.holds Try.pinned (OpenSpec.ofChange fnExactDerivativeModularWrong)

/-- 'laws.FnExactIsSquareFree': WHATEVER THE INPUT: true; the input reads as it did. -/
def fnExactIsSquareFreeSpec : ChangeSpec := { name := "fnExactIsSquareFree", fn := fun _ => fun
  | [d1, d2] => { results := [.lit (.bool true)], args := [d1, d2] }
  | _ => none }
def fnExactIsSquareFreeRow : OpenClaim := { program := "ytgnjhdkkjijiaaa", sum := "d73f202f947c34e029e7ea9e6eb44770b4a09b7ab7f39c171cea1c597014c9cc", func := "loop.example/g01000/laws.FnExactIsSquareFree", spec := "fnExactIsSquareFree", unfollowed := true, recurses := true, apart := false }
def FnExactIsSquareFreeSaid : Prop := fnExactIsSquareFreeRow.holds Try.pinned (OpenSpec.ofChange fnExactIsSquareFreeSpec)

/-- ITS FALSE NEIGHBOUR: 'it returns false'. Refute it at one input. -/
def fnExactIsSquareFreeWrong : ChangeSpec := { name := "fnExactIsSquareFree", fn := fun _ => fun
  | [d1, d2] => { results := [.lit (.bool false)], args := [d1, d2] }
  | _ => none }
def FnExactIsSquareFreeWrongFalsely : Prop := fnExactIsSquareFreeRow.holds Try.pinned (OpenSpec.ofChange fnExactIsSquareFreeWrong)

/- THE SECOND FORM. 'bulk': how many values and letters a reading holds, each counted each time it is reached (what is shared counts as often as it is met; a slice's spare places count too). A statement '..UptoSaid' is the law's where the arguments, and the package variables that the reading takes, are together of bulk at most 1048576: NARROWER than '..Said'. Prove '..Said' where nothing that the law and all that it calls make is longer than what came in: it says more and counts as full. Else prove '..UptoSaid'. A law counts once. -/
mutual
def uptoBulk {H : Type} : DataW H → Nat
  | .lit (.string bytes) => bytes.length + 1
  | .lit _ => 1
  | .nil => 1
  | .ptr d => uptoBulk d + 1
  | .slice elems spare => uptoBulkAll elems + uptoBulkAll spare + 1
  | .agg parts => uptoBulkAll parts + 1
  | .iface _ d => uptoBulk d + 1
  | .map entries => uptoBulkEntries entries + 1
  | .held _ => 1
def uptoBulkAll {H : Type} : List (DataW H) → Nat
  | [] => 0
  | d :: r => uptoBulk d + uptoBulkAll r
def uptoBulkEntries {H : Type} : List (Lit × DataW H) → Nat
  | [] => 0
  | x :: r => uptoBulkEntry x + uptoBulkEntries r
def uptoBulkEntry {H : Type} : Lit × DataW H → Nat
  | (.string bytes, d) => bytes.length + uptoBulk d + 1
  | (_, d) => uptoBulk d + 1
 end
def uptoSmall : (H : Type) → List (DataW H) → Bool := fun _ ds => decide (uptoBulkAll ds ≤ 1048576)
def OpenSpec.upto (s : _root_.Go.ChangeSpec) : _root_.Go.OpenSpec := { _root_.Go.OpenSpec.ofChange s with cond := some uptoSmall }

/-- 'laws.FnModularQuotients', WHERE WHAT IT READS IS OF BULK AT MOST 1048576: true; the input reads as it did. -/
def fnModularQuotientsUptoRow : OpenClaim := { program := "ytgnjhdkkjijiaaa", sum := "d73f202f947c34e029e7ea9e6eb44770b4a09b7ab7f39c171cea1c597014c9cc", func := "loop.example/g01000/laws.FnModularQuotients", spec := "fnModularQuotients", unfollowed := true, recurses := true, apart := false, narrowed := true }
def FnModularQuotientsUptoSaid : Prop := fnModularQuotientsUptoRow.holds Try.pinned (OpenSpec.upto fnModularQuotientsSpec)

/-- 'laws.FnModularDivisors', WHERE WHAT IT READS IS OF BULK AT MOST 1048576: true; the input reads as it did. -/
def fnModularDivisorsUptoRow : OpenClaim := { program := "ytgnjhdkkjijiaaa", sum := "d73f202f947c34e029e7ea9e6eb44770b4a09b7ab7f39c171cea1c597014c9cc", func := "loop.example/g01000/laws.FnModularDivisors", spec := "fnModularDivisors", unfollowed := true, recurses := true, apart := false, narrowed := true }
def FnModularDivisorsUptoSaid : Prop := fnModularDivisorsUptoRow.holds Try.pinned (OpenSpec.upto fnModularDivisorsSpec)

/-- 'laws.FnModularRoots', WHERE WHAT IT READS IS OF BULK AT MOST 1048576: true; the input reads as it did. -/
def fnModularRootsUptoRow : OpenClaim := { program := "ytgnjhdkkjijiaaa", sum := "d73f202f947c34e029e7ea9e6eb44770b4a09b7ab7f39c171cea1c597014c9cc", func := "loop.example/g01000/laws.FnModularRoots", spec := "fnModularRoots", unfollowed := true, recurses := true, apart := false, narrowed := true }
def FnModularRootsUptoSaid : Prop := fnModularRootsUptoRow.holds Try.pinned (OpenSpec.upto fnModularRootsSpec)

/-- 'laws.FnExactIsModular', WHERE WHAT IT READS IS OF BULK AT MOST 1048576: true; the input reads as it did. -/
def fnExactIsModularUptoRow : OpenClaim := { program := "ytgnjhdkkjijiaaa", sum := "d73f202f947c34e029e7ea9e6eb44770b4a09b7ab7f39c171cea1c597014c9cc", func := "loop.example/g01000/laws.FnExactIsModular", spec := "fnExactIsModular", apart := false, narrowed := true }
def FnExactIsModularUptoSaid : Prop := fnExactIsModularUptoRow.holds Try.pinned (OpenSpec.upto fnExactIsModularSpec)

/-- 'laws.FnExactReducePolynomial', WHERE WHAT IT READS IS OF BULK AT MOST 1048576: true; the input reads as it did. -/
def fnExactReducePolynomialUptoRow : OpenClaim := { program := "ytgnjhdkkjijiaaa", sum := "d73f202f947c34e029e7ea9e6eb44770b4a09b7ab7f39c171cea1c597014c9cc", func := "loop.example/g01000/laws.FnExactReducePolynomial", spec := "fnExactReducePolynomial", apart := false, narrowed := true }
def FnExactReducePolynomialUptoSaid : Prop := fnExactReducePolynomialUptoRow.holds Try.pinned (OpenSpec.upto fnExactReducePolynomialSpec)

/-- 'laws.FnExactMultiplyModular', WHERE WHAT IT READS IS OF BULK AT MOST 1048576: true; the input reads as it did. -/
def fnExactMultiplyModularUptoRow : OpenClaim := { program := "ytgnjhdkkjijiaaa", sum := "d73f202f947c34e029e7ea9e6eb44770b4a09b7ab7f39c171cea1c597014c9cc", func := "loop.example/g01000/laws.FnExactMultiplyModular", spec := "fnExactMultiplyModular", apart := false, narrowed := true }
def FnExactMultiplyModularUptoSaid : Prop := fnExactMultiplyModularUptoRow.holds Try.pinned (OpenSpec.upto fnExactMultiplyModularSpec)

/-- 'laws.FnExactDivideModular', WHERE WHAT IT READS IS OF BULK AT MOST 1048576: true; the input reads as it did. -/
def fnExactDivideModularUptoRow : OpenClaim := { program := "ytgnjhdkkjijiaaa", sum := "d73f202f947c34e029e7ea9e6eb44770b4a09b7ab7f39c171cea1c597014c9cc", func := "loop.example/g01000/laws.FnExactDivideModular", spec := "fnExactDivideModular", unfollowed := true, recurses := true, apart := false, narrowed := true }
def FnExactDivideModularUptoSaid : Prop := fnExactDivideModularUptoRow.holds Try.pinned (OpenSpec.upto fnExactDivideModularSpec)

/-- 'laws.FnExactCommonModular', WHERE WHAT IT READS IS OF BULK AT MOST 1048576: true; the input reads as it did. -/
def fnExactCommonModularUptoRow : OpenClaim := { program := "ytgnjhdkkjijiaaa", sum := "d73f202f947c34e029e7ea9e6eb44770b4a09b7ab7f39c171cea1c597014c9cc", func := "loop.example/g01000/laws.FnExactCommonModular", spec := "fnExactCommonModular", unfollowed := true, recurses := true, apart := false, narrowed := true }
def FnExactCommonModularUptoSaid : Prop := fnExactCommonModularUptoRow.holds Try.pinned (OpenSpec.upto fnExactCommonModularSpec)

/-- 'laws.FnExactPowerOfX', WHERE WHAT IT READS IS OF BULK AT MOST 1048576: true; the input reads as it did. -/
def fnExactPowerOfXUptoRow : OpenClaim := { program := "ytgnjhdkkjijiaaa", sum := "d73f202f947c34e029e7ea9e6eb44770b4a09b7ab7f39c171cea1c597014c9cc", func := "loop.example/g01000/laws.FnExactPowerOfX", spec := "fnExactPowerOfX", unfollowed := true, recurses := true, apart := false, narrowed := true }
def FnExactPowerOfXUptoSaid : Prop := fnExactPowerOfXUptoRow.holds Try.pinned (OpenSpec.upto fnExactPowerOfXSpec)

/-- 'laws.FnExactRootsModular', WHERE WHAT IT READS IS OF BULK AT MOST 1048576: true; the input reads as it did. -/
def fnExactRootsModularUptoRow : OpenClaim := { program := "ytgnjhdkkjijiaaa", sum := "d73f202f947c34e029e7ea9e6eb44770b4a09b7ab7f39c171cea1c597014c9cc", func := "loop.example/g01000/laws.FnExactRootsModular", spec := "fnExactRootsModular", unfollowed := true, recurses := true, apart := false, narrowed := true }
def FnExactRootsModularUptoSaid : Prop := fnExactRootsModularUptoRow.holds Try.pinned (OpenSpec.upto fnExactRootsModularSpec)

/-- 'laws.FnExactDerivativeModular', WHERE WHAT IT READS IS OF BULK AT MOST 1048576: true; the input reads as it did. -/
def fnExactDerivativeModularUptoRow : OpenClaim := { program := "ytgnjhdkkjijiaaa", sum := "d73f202f947c34e029e7ea9e6eb44770b4a09b7ab7f39c171cea1c597014c9cc", func := "loop.example/g01000/laws.FnExactDerivativeModular", spec := "fnExactDerivativeModular", apart := false, narrowed := true }
def FnExactDerivativeModularUptoSaid : Prop := fnExactDerivativeModularUptoRow.holds Try.pinned (OpenSpec.upto fnExactDerivativeModularSpec)

/-- 'laws.FnExactIsSquareFree', WHERE WHAT IT READS IS OF BULK AT MOST 1048576: true; the input reads as it did. -/
def fnExactIsSquareFreeUptoRow : OpenClaim := { program := "ytgnjhdkkjijiaaa", sum := "d73f202f947c34e029e7ea9e6eb44770b4a09b7ab7f39c171cea1c597014c9cc", func := "loop.example/g01000/laws.FnExactIsSquareFree", spec := "fnExactIsSquareFree", unfollowed := true, recurses := true, apart := false, narrowed := true }
def FnExactIsSquareFreeUptoSaid : Prop := fnExactIsSquareFreeUptoRow.holds Try.pinned (OpenSpec.upto fnExactIsSquareFreeSpec)

end Rows
end Go.Proofs.Ytgnjhdkkjijiaaa
