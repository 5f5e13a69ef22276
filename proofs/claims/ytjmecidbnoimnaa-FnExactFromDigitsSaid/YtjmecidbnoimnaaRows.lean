/-
  No cell of these rows narrows 'for every input' (looked for: loops, veiled, ifaces, maps, wideKeys, modest, calm, conditions, laid).
  DERIVED. THE GIVEN ROWS OF THIS SEAT. 11 by the template 'for every input the law returns true; each argument reads behind the call as it read before'; 0 by the template 'total and deterministic' (their statements: YtjmecidbnoimnaaTotals.lean).
  GIVEN WITH THE SEED: the statements are not yours to turn. If you find one false, say at which input.
  Laid BY PROGRAM, IN A SANDBOX (cutbox-rows.mjs): the forced cells as the released guide's own fill.sh prints them over the translation e65600726147c4b8… (all of the seat's roots in one cut). By AI agents, Wed Nov 11 2026. No macro, syntax, notation, axiom, sorry.
-/
import Derived.Test.YtjmecidbnoimnaaChecked
import GoSem.Claim
import GoSem.ClaimJoined
import GoSem.ClaimMapViews
import Derived.JoinedTies
import Derived.KernelRfl
namespace Go.Proofs.Ytjmecidbnoimnaa
/- THE CELL 'sum', in the pinned program and in every row, IS THE sha256 OF THE DUMP (.gsa) THAT YtjmecidbnoimnaaProg.lean LOADS. Nothing in Lean hashes anything: it is a label: what it is worth is what the hold of that sum in a sandbox is worth. -/
noncomputable def Try.pinned : Pinned := { name := "ytjmecidbnoimnaa", sum := "e65600726147c4b8981fd4aceb992c19eb461dbbaac3d023d16e619774098461", checked := Try.checked }
namespace Rows
def none {H : Type} : Left H := { results := [], args := [] }

/-- 'laws.FnCounted': WHATEVER THE INPUT: true; the input reads as it did. -/
def fnCountedSpec : ChangeSpec := { name := "fnCounted", fn := fun _ => fun
  | [d] => { results := [.lit (.bool true)], args := [d] }
  | _ => none }
def fnCountedRow : OpenClaim := { program := "ytjmecidbnoimnaa", sum := "e65600726147c4b8981fd4aceb992c19eb461dbbaac3d023d16e619774098461", func := "loop.example/g01000/laws.FnCounted", spec := "fnCounted", recurses := true, plainKeys := false, apart := false }
def FnCountedSaid : Prop := fnCountedRow.holds Try.pinned (OpenSpec.ofChange fnCountedSpec)

/-- ITS FALSE NEIGHBOUR: 'it returns false'. Refute it at one input. -/
def fnCountedWrong : ChangeSpec := { name := "fnCounted", fn := fun _ => fun
  | [d] => { results := [.lit (.bool false)], args := [d] }
  | _ => none }
def FnCountedWrongFalsely : Prop := fnCountedRow.holds Try.pinned (OpenSpec.ofChange fnCountedWrong)

/-- 'laws.FnExactFromDigits': WHATEVER THE INPUT: true; the input reads as it did. -/
def fnExactFromDigitsSpec : ChangeSpec := { name := "fnExactFromDigits", fn := fun _ => fun
  | [d1, d2, d3] => { results := [.lit (.bool true)], args := [d1, d2, d3] }
  | _ => none }
def fnExactFromDigitsRow : OpenClaim := { program := "ytjmecidbnoimnaa", sum := "e65600726147c4b8981fd4aceb992c19eb461dbbaac3d023d16e619774098461", func := "loop.example/g01000/laws.FnExactFromDigits", spec := "fnExactFromDigits", unfollowed := true, recurses := true, plainKeys := false, leaving := true, apart := false }
def FnExactFromDigitsSaid : Prop := fnExactFromDigitsRow.holds Try.pinned (OpenSpec.ofChange fnExactFromDigitsSpec)

/-- ITS FALSE NEIGHBOUR: 'it returns false'. Refute it at one input. -/
def fnExactFromDigitsWrong : ChangeSpec := { name := "fnExactFromDigits", fn := fun _ => fun
  | [d1, d2, d3] => { results := [.lit (.bool false)], args := [d1, d2, d3] }
  | _ => none }
def FnExactFromDigitsWrongFalsely : Prop := fnExactFromDigitsRow.holds Try.pinned (OpenSpec.ofChange fnExactFromDigitsWrong)

/-- 'laws.FnExactProductOf': WHATEVER THE INPUT: true; the input reads as it did. -/
def fnExactProductOfSpec : ChangeSpec := { name := "fnExactProductOf", fn := fun _ => fun
  | [d1, d2] => { results := [.lit (.bool true)], args := [d1, d2] }
  | _ => none }
def fnExactProductOfRow : OpenClaim := { program := "ytjmecidbnoimnaa", sum := "e65600726147c4b8981fd4aceb992c19eb461dbbaac3d023d16e619774098461", func := "loop.example/g01000/laws.FnExactProductOf", spec := "fnExactProductOf", plainKeys := false, apart := false }
def FnExactProductOfSaid : Prop := fnExactProductOfRow.holds Try.pinned (OpenSpec.ofChange fnExactProductOfSpec)

/-- ITS FALSE NEIGHBOUR: 'it returns false'. Refute it at one input. -/
def fnExactProductOfWrong : ChangeSpec := { name := "fnExactProductOf", fn := fun _ => fun
  | [d1, d2] => { results := [.lit (.bool false)], args := [d1, d2] }
  | _ => none }
def FnExactProductOfWrongFalsely : Prop := fnExactProductOfRow.holds Try.pinned (OpenSpec.ofChange fnExactProductOfWrong)

/-- 'laws.FnExactMoebiusOf': WHATEVER THE INPUT: true; the input reads as it did. -/
def fnExactMoebiusOfSpec : ChangeSpec := { name := "fnExactMoebiusOf", fn := fun _ => fun
  | [d] => { results := [.lit (.bool true)], args := [d] }
  | _ => none }
def fnExactMoebiusOfRow : OpenClaim := { program := "ytjmecidbnoimnaa", sum := "e65600726147c4b8981fd4aceb992c19eb461dbbaac3d023d16e619774098461", func := "loop.example/g01000/laws.FnExactMoebiusOf", spec := "fnExactMoebiusOf", plainKeys := false, apart := false }
def FnExactMoebiusOfSaid : Prop := fnExactMoebiusOfRow.holds Try.pinned (OpenSpec.ofChange fnExactMoebiusOfSpec)

/-- ITS FALSE NEIGHBOUR: 'it returns false'. Refute it at one input. -/
def fnExactMoebiusOfWrong : ChangeSpec := { name := "fnExactMoebiusOf", fn := fun _ => fun
  | [d] => { results := [.lit (.bool false)], args := [d] }
  | _ => none }
def FnExactMoebiusOfWrongFalsely : Prop := fnExactMoebiusOfRow.holds Try.pinned (OpenSpec.ofChange fnExactMoebiusOfWrong)

/-- 'laws.FnExactCountIrreducibles': WHATEVER THE INPUT: true; the input reads as it did. -/
def fnExactCountIrreduciblesSpec : ChangeSpec := { name := "fnExactCountIrreducibles", fn := fun _ => fun
  | [d1, d2] => { results := [.lit (.bool true)], args := [d1, d2] }
  | _ => none }
def fnExactCountIrreduciblesRow : OpenClaim := { program := "ytjmecidbnoimnaa", sum := "e65600726147c4b8981fd4aceb992c19eb461dbbaac3d023d16e619774098461", func := "loop.example/g01000/laws.FnExactCountIrreducibles", spec := "fnExactCountIrreducibles", recurses := true, plainKeys := false, apart := false }
def FnExactCountIrreduciblesSaid : Prop := fnExactCountIrreduciblesRow.holds Try.pinned (OpenSpec.ofChange fnExactCountIrreduciblesSpec)

/-- ITS FALSE NEIGHBOUR: 'it returns false'. Refute it at one input. -/
def fnExactCountIrreduciblesWrong : ChangeSpec := { name := "fnExactCountIrreducibles", fn := fun _ => fun
  | [d1, d2] => { results := [.lit (.bool false)], args := [d1, d2] }
  | _ => none }
def FnExactCountIrreduciblesWrongFalsely : Prop := fnExactCountIrreduciblesRow.holds Try.pinned (OpenSpec.ofChange fnExactCountIrreduciblesWrong)

/-- 'laws.FnExactCountSquareFrees': WHATEVER THE INPUT: true; the input reads as it did. -/
def fnExactCountSquareFreesSpec : ChangeSpec := { name := "fnExactCountSquareFrees", fn := fun _ => fun
  | [d1, d2] => { results := [.lit (.bool true)], args := [d1, d2] }
  | _ => none }
def fnExactCountSquareFreesRow : OpenClaim := { program := "ytjmecidbnoimnaa", sum := "e65600726147c4b8981fd4aceb992c19eb461dbbaac3d023d16e619774098461", func := "loop.example/g01000/laws.FnExactCountSquareFrees", spec := "fnExactCountSquareFrees", plainKeys := false, apart := false }
def FnExactCountSquareFreesSaid : Prop := fnExactCountSquareFreesRow.holds Try.pinned (OpenSpec.ofChange fnExactCountSquareFreesSpec)

/-- ITS FALSE NEIGHBOUR: 'it returns false'. Refute it at one input. -/
def fnExactCountSquareFreesWrong : ChangeSpec := { name := "fnExactCountSquareFrees", fn := fun _ => fun
  | [d1, d2] => { results := [.lit (.bool false)], args := [d1, d2] }
  | _ => none }
def FnExactCountSquareFreesWrongFalsely : Prop := fnExactCountSquareFreesRow.holds Try.pinned (OpenSpec.ofChange fnExactCountSquareFreesWrong)

/-- 'laws.FnExactCountWithDegrees': WHATEVER THE INPUT: true; the input reads as it did. -/
def fnExactCountWithDegreesSpec : ChangeSpec := { name := "fnExactCountWithDegrees", fn := fun _ => fun
  | [d1, d2] => { results := [.lit (.bool true)], args := [d1, d2] }
  | _ => none }
def fnExactCountWithDegreesRow : OpenClaim := { program := "ytjmecidbnoimnaa", sum := "e65600726147c4b8981fd4aceb992c19eb461dbbaac3d023d16e619774098461", func := "loop.example/g01000/laws.FnExactCountWithDegrees", spec := "fnExactCountWithDegrees", recurses := true, plainKeys := false, apart := false }
def FnExactCountWithDegreesSaid : Prop := fnExactCountWithDegreesRow.holds Try.pinned (OpenSpec.ofChange fnExactCountWithDegreesSpec)

/-- ITS FALSE NEIGHBOUR: 'it returns false'. Refute it at one input. -/
def fnExactCountWithDegreesWrong : ChangeSpec := { name := "fnExactCountWithDegrees", fn := fun _ => fun
  | [d1, d2] => { results := [.lit (.bool false)], args := [d1, d2] }
  | _ => none }
def FnExactCountWithDegreesWrongFalsely : Prop := fnExactCountWithDegreesRow.holds Try.pinned (OpenSpec.ofChange fnExactCountWithDegreesWrong)

/-- 'laws.FnExactFirstIrreducible': WHATEVER THE INPUT: true; the input reads as it did. -/
def fnExactFirstIrreducibleSpec : ChangeSpec := { name := "fnExactFirstIrreducible", fn := fun _ => fun
  | [d1, d2] => { results := [.lit (.bool true)], args := [d1, d2] }
  | _ => none }
def fnExactFirstIrreducibleRow : OpenClaim := { program := "ytjmecidbnoimnaa", sum := "e65600726147c4b8981fd4aceb992c19eb461dbbaac3d023d16e619774098461", func := "loop.example/g01000/laws.FnExactFirstIrreducible", spec := "fnExactFirstIrreducible", unfollowed := true, recurses := true, plainKeys := false, leaving := true, apart := false }
def FnExactFirstIrreducibleSaid : Prop := fnExactFirstIrreducibleRow.holds Try.pinned (OpenSpec.ofChange fnExactFirstIrreducibleSpec)

/-- ITS FALSE NEIGHBOUR: 'it returns false'. Refute it at one input. -/
def fnExactFirstIrreducibleWrong : ChangeSpec := { name := "fnExactFirstIrreducible", fn := fun _ => fun
  | [d1, d2] => { results := [.lit (.bool false)], args := [d1, d2] }
  | _ => none }
def FnExactFirstIrreducibleWrongFalsely : Prop := fnExactFirstIrreducibleRow.holds Try.pinned (OpenSpec.ofChange fnExactFirstIrreducibleWrong)

/-- 'laws.FnExactNextIrreducible': WHATEVER THE INPUT: true; the input reads as it did. -/
def fnExactNextIrreducibleSpec : ChangeSpec := { name := "fnExactNextIrreducible", fn := fun _ => fun
  | [d1, d2] => { results := [.lit (.bool true)], args := [d1, d2] }
  | _ => none }
def fnExactNextIrreducibleRow : OpenClaim := { program := "ytjmecidbnoimnaa", sum := "e65600726147c4b8981fd4aceb992c19eb461dbbaac3d023d16e619774098461", func := "loop.example/g01000/laws.FnExactNextIrreducible", spec := "fnExactNextIrreducible", unfollowed := true, recurses := true, plainKeys := false, leaving := true, apart := false }
def FnExactNextIrreducibleSaid : Prop := fnExactNextIrreducibleRow.holds Try.pinned (OpenSpec.ofChange fnExactNextIrreducibleSpec)

/-- ITS FALSE NEIGHBOUR: 'it returns false'. Refute it at one input. -/
def fnExactNextIrreducibleWrong : ChangeSpec := { name := "fnExactNextIrreducible", fn := fun _ => fun
  | [d1, d2] => { results := [.lit (.bool false)], args := [d1, d2] }
  | _ => none }
def FnExactNextIrreducibleWrongFalsely : Prop := fnExactNextIrreducibleRow.holds Try.pinned (OpenSpec.ofChange fnExactNextIrreducibleWrong)

/-- 'laws.FnExactNumberOf': WHATEVER THE INPUT: true; the input reads as it did. -/
def fnExactNumberOfSpec : ChangeSpec := { name := "fnExactNumberOf", fn := fun _ => fun
  | [d1, d2] => { results := [.lit (.bool true)], args := [d1, d2] }
  | _ => none }
def fnExactNumberOfRow : OpenClaim := { program := "ytjmecidbnoimnaa", sum := "e65600726147c4b8981fd4aceb992c19eb461dbbaac3d023d16e619774098461", func := "loop.example/g01000/laws.FnExactNumberOf", spec := "fnExactNumberOf", unfollowed := true, recurses := true, plainKeys := false, leaving := true, apart := false }
def FnExactNumberOfSaid : Prop := fnExactNumberOfRow.holds Try.pinned (OpenSpec.ofChange fnExactNumberOfSpec)

/-- ITS FALSE NEIGHBOUR: 'it returns false'. Refute it at one input. -/
def fnExactNumberOfWrong : ChangeSpec := { name := "fnExactNumberOf", fn := fun _ => fun
  | [d1, d2] => { results := [.lit (.bool false)], args := [d1, d2] }
  | _ => none }
def FnExactNumberOfWrongFalsely : Prop := fnExactNumberOfRow.holds Try.pinned (OpenSpec.ofChange fnExactNumberOfWrong)

/-- 'laws.FnExactPolynomialWith': WHATEVER THE INPUT: true; the input reads as it did. -/
def fnExactPolynomialWithSpec : ChangeSpec := { name := "fnExactPolynomialWith", fn := fun _ => fun
  | [d1, d2] => { results := [.lit (.bool true)], args := [d1, d2] }
  | _ => none }
def fnExactPolynomialWithRow : OpenClaim := { program := "ytjmecidbnoimnaa", sum := "e65600726147c4b8981fd4aceb992c19eb461dbbaac3d023d16e619774098461", func := "loop.example/g01000/laws.FnExactPolynomialWith", spec := "fnExactPolynomialWith", plainKeys := false, apart := false }
def FnExactPolynomialWithSaid : Prop := fnExactPolynomialWithRow.holds Try.pinned (OpenSpec.ofChange fnExactPolynomialWithSpec)

/-- ITS FALSE NEIGHBOUR: 'it returns false'. Refute it at one input. -/
def fnExactPolynomialWithWrong : ChangeSpec := { name := "fnExactPolynomialWith", fn := fun _ => fun
  | [d1, d2] => { results := [.lit (.bool false)], args := [d1, d2] }
  | _ => none }
def FnExactPolynomialWithWrongFalsely : Prop := fnExactPolynomialWithRow.holds Try.pinned (OpenSpec.ofChange fnExactPolynomialWithWrong)

/- THE SECOND FORM. 'bulk': how many values and letters a reading holds, each counted each time it is reached (what is shared counts as often as it is met; a slice's spare places count too). A statement '..UptoSaid' is the law's where the arguments, and the package variables that the reading takes, are together of bulk at most 1048576: NARROWER than '..Said'. Prove '..Said' where nothing that the law and all that it calls make is longer than what came in: it says more and counts as full. Else prove '..UptoSaid'. A law counts once. -/
mutual
def uptoBulk {H : Type} : DataW H → Nat
  | .lit (.string bytes) => bytes.length + 1
  | .lit _ => 1
  | .nil => 1
  | .ptr d => uptoBulk d + 1
  | .slice elems spare => uptoBulkAll elems + uptoBulkAll spare + 1
  | .agg parts => uptoBulkAll parts + 1
  | .iface _ d => uptoBulk d + 1
  | .map entries => uptoBulkEntries entries + 1
  | .held _ => 1
def uptoBulkAll {H : Type} : List (DataW H) → Nat
  | [] => 0
  | d :: r => uptoBulk d + uptoBulkAll r
def uptoBulkEntries {H : Type} : List (Lit × DataW H) → Nat
  | [] => 0
  | x :: r => uptoBulkEntry x + uptoBulkEntries r
def uptoBulkEntry {H : Type} : Lit × DataW H → Nat
  | (.string bytes, d) => bytes.length + uptoBulk d + 1
  | (_, d) => uptoBulk d + 1
 end
def uptoSmall : (H : Type) → List (DataW H) → Bool := fun _ ds => decide (uptoBulkAll ds ≤ 1048576)
def OpenSpec.upto (s : _root_.Go.ChangeSpec) : _root_.Go.OpenSpec := { _root_.Go.OpenSpec.ofChange s with cond := some uptoSmall }

/-- 'laws.FnCounted', WHERE WHAT IT READS IS OF BULK AT MOST 1048576: true; the input reads as it did. -/
def fnCountedUptoRow : OpenClaim := { program := "ytjmecidbnoimnaa", sum := "e65600726147c4b8981fd4aceb992c19eb461dbbaac3d023d16e619774098461", func := "loop.example/g01000/laws.FnCounted", spec := "fnCounted", recurses := true, plainKeys := false, apart := false, narrowed := true }
def FnCountedUptoSaid : Prop := fnCountedUptoRow.holds Try.pinned (OpenSpec.upto fnCountedSpec)

/-- 'laws.FnExactFromDigits', WHERE WHAT IT READS IS OF BULK AT MOST 1048576: true; the input reads as it did. -/
def fnExactFromDigitsUptoRow : OpenClaim := { program := "ytjmecidbnoimnaa", sum := "e65600726147c4b8981fd4aceb992c19eb461dbbaac3d023d16e619774098461", func := "loop.example/g01000/laws.FnExactFromDigits", spec := "fnExactFromDigits", unfollowed := true, recurses := true, plainKeys := false, leaving := true, apart := false, narrowed := true }
def FnExactFromDigitsUptoSaid : Prop := fnExactFromDigitsUptoRow.holds Try.pinned (OpenSpec.upto fnExactFromDigitsSpec)

/-- 'laws.FnExactProductOf', WHERE WHAT IT READS IS OF BULK AT MOST 1048576: true; the input reads as it did. -/
def fnExactProductOfUptoRow : OpenClaim := { program := "ytjmecidbnoimnaa", sum := "e65600726147c4b8981fd4aceb992c19eb461dbbaac3d023d16e619774098461", func := "loop.example/g01000/laws.FnExactProductOf", spec := "fnExactProductOf", plainKeys := false, apart := false, narrowed := true }
def FnExactProductOfUptoSaid : Prop := fnExactProductOfUptoRow.holds Try.pinned (OpenSpec.upto fnExactProductOfSpec)

/-- 'laws.FnExactMoebiusOf', WHERE WHAT IT READS IS OF BULK AT MOST 1048576: true; the input reads as it did. -/
def fnExactMoebiusOfUptoRow : OpenClaim := { program := "ytjmecidbnoimnaa", sum := "e65600726147c4b8981fd4aceb992c19eb461dbbaac3d023d16e619774098461", func := "loop.example/g01000/laws.FnExactMoebiusOf", spec := "fnExactMoebiusOf", plainKeys := false, apart := false, narrowed := true }
def FnExactMoebiusOfUptoSaid : Prop := fnExactMoebiusOfUptoRow.holds Try.pinned (OpenSpec.upto fnExactMoebiusOfSpec)

/-- 'laws.FnExactCountIrreducibles', WHERE WHAT IT READS IS OF BULK AT MOST 1048576: true; the input reads as it did. -/
def fnExactCountIrreduciblesUptoRow : OpenClaim := { program := "ytjmecidbnoimnaa", sum := "e65600726147c4b8981fd4aceb992c19eb461dbbaac3d023d16e619774098461", func := "loop.example/g01000/laws.FnExactCountIrreducibles", spec := "fnExactCountIrreducibles", recurses := true, plainKeys := false, apart := false, narrowed := true }
def FnExactCountIrreduciblesUptoSaid : Prop := fnExactCountIrreduciblesUptoRow.holds Try.pinned (OpenSpec.upto fnExactCountIrreduciblesSpec)

/-- 'laws.FnExactCountSquareFrees', WHERE WHAT IT READS IS OF BULK AT MOST 1048576: true; the input reads as it did. -/
def fnExactCountSquareFreesUptoRow : OpenClaim := { program := "ytjmecidbnoimnaa", sum := "e65600726147c4b8981fd4aceb992c19eb461dbbaac3d023d16e619774098461", func := "loop.example/g01000/laws.FnExactCountSquareFrees", spec := "fnExactCountSquareFrees", plainKeys := false, apart := false, narrowed := true }
def FnExactCountSquareFreesUptoSaid : Prop := fnExactCountSquareFreesUptoRow.holds Try.pinned (OpenSpec.upto fnExactCountSquareFreesSpec)

/-- 'laws.FnExactCountWithDegrees', WHERE WHAT IT READS IS OF BULK AT MOST 1048576: true; the input reads as it did. -/
def fnExactCountWithDegreesUptoRow : OpenClaim := { program := "ytjmecidbnoimnaa", sum := "e65600726147c4b8981fd4aceb992c19eb461dbbaac3d023d16e619774098461", func := "loop.example/g01000/laws.FnExactCountWithDegrees", spec := "fnExactCountWithDegrees", recurses := true, plainKeys := false, apart := false, narrowed := true }
def FnExactCountWithDegreesUptoSaid : Prop := fnExactCountWithDegreesUptoRow.holds Try.pinned (OpenSpec.upto fnExactCountWithDegreesSpec)

/-- 'laws.FnExactFirstIrreducible', WHERE WHAT IT READS IS OF BULK AT MOST 1048576: true; the input reads as it did. -/
def fnExactFirstIrreducibleUptoRow : OpenClaim := { program := "ytjmecidbnoimnaa", sum := "e65600726147c4b8981fd4aceb992c19eb461dbbaac3d023d16e619774098461", func := "loop.example/g01000/laws.FnExactFirstIrreducible", spec := "fnExactFirstIrreducible", unfollowed := true, recurses := true, plainKeys := false, leaving := true, apart := false, narrowed := true }
def FnExactFirstIrreducibleUptoSaid : Prop := fnExactFirstIrreducibleUptoRow.holds Try.pinned (OpenSpec.upto fnExactFirstIrreducibleSpec)

/-- 'laws.FnExactNextIrreducible', WHERE WHAT IT READS IS OF BULK AT MOST 1048576: true; the input reads as it did. -/
def fnExactNextIrreducibleUptoRow : OpenClaim := { program := "ytjmecidbnoimnaa", sum := "e65600726147c4b8981fd4aceb992c19eb461dbbaac3d023d16e619774098461", func := "loop.example/g01000/laws.FnExactNextIrreducible", spec := "fnExactNextIrreducible", unfollowed := true, recurses := true, plainKeys := false, leaving := true, apart := false, narrowed := true }
def FnExactNextIrreducibleUptoSaid : Prop := fnExactNextIrreducibleUptoRow.holds Try.pinned (OpenSpec.upto fnExactNextIrreducibleSpec)

/-- 'laws.FnExactNumberOf', WHERE WHAT IT READS IS OF BULK AT MOST 1048576: true; the input reads as it did. -/
def fnExactNumberOfUptoRow : OpenClaim := { program := "ytjmecidbnoimnaa", sum := "e65600726147c4b8981fd4aceb992c19eb461dbbaac3d023d16e619774098461", func := "loop.example/g01000/laws.FnExactNumberOf", spec := "fnExactNumberOf", unfollowed := true, recurses := true, plainKeys := false, leaving := true, apart := false, narrowed := true }
def FnExactNumberOfUptoSaid : Prop := fnExactNumberOfUptoRow.holds Try.pinned (OpenSpec.upto fnExactNumberOfSpec)

/-- 'laws.FnExactPolynomialWith', WHERE WHAT IT READS IS OF BULK AT MOST 1048576: true; the input reads as it did. -/
def fnExactPolynomialWithUptoRow : OpenClaim := { program := "ytjmecidbnoimnaa", sum := "e65600726147c4b8981fd4aceb992c19eb461dbbaac3d023d16e619774098461", func := "loop.example/g01000/laws.FnExactPolynomialWith", spec := "fnExactPolynomialWith", plainKeys := false, apart := false, narrowed := true }
def FnExactPolynomialWithUptoSaid : Prop := fnExactPolynomialWithUptoRow.holds Try.pinned (OpenSpec.upto fnExactPolynomialWithSpec)

end Rows
end Go.Proofs.Ytjmecidbnoimnaa
