/-
  No cell of these rows narrows 'for every input' (looked for: loops, veiled, ifaces, maps, wideKeys, modest, calm, conditions, laid).
  DERIVED. THE GIVEN ROWS OF THIS SEAT. 13 by the template 'for every input the law returns true; each argument reads behind the call as it read before'; 0 by the template 'total and deterministic' (their statements: YtnajgfgnmoihaaaTotals.lean).
  GIVEN WITH THE SEED: the statements are not yours to turn. If you find one false, say at which input.
  Laid BY PROGRAM, IN A SANDBOX (cutbox-rows.mjs): the forced cells as the released guide's own fill.sh prints them over the translation 2b317fe9d26f9fd1… (all of the seat's roots in one cut). By AI agents, Wed Nov 11 2026. No macro, syntax, notation, axiom, sorry.
-/
import Derived.Test.YtnajgfgnmoihaaaChecked
import GoSem.Claim
import GoSem.ClaimJoined
import GoSem.ClaimMapViews
import Derived.JoinedTies
import Derived.KernelRfl
namespace Go.Proofs.Ytnajgfgnmoihaaa
/- THE CELL 'sum', in the pinned program and in every row, IS THE sha256 OF THE DUMP (.gsa) THAT YtnajgfgnmoihaaaProg.lean LOADS. Nothing in Lean hashes anything: it is a label: what it is worth is what the hold of that sum in a sandbox is worth. -/
noncomputable def Try.pinned : Pinned := { name := "ytnajgfgnmoihaaa", sum := "2b317fe9d26f9fd16c2d1e855146f75f48329d15c25e39498d4d4878252f7f11", checked := Try.checked }
namespace Rows
def none {H : Type} : Left H := { results := [], args := [] }

/-- 'laws.FnInverses': WHATEVER THE INPUT: true; the input reads as it did. -/
def fnInversesSpec : ChangeSpec := { name := "fnInverses", fn := fun _ => fun
  | [d] => { results := [.lit (.bool true)], args := [d] }
  | _ => none }
def fnInversesRow : OpenClaim := { program := "ytnajgfgnmoihaaa", sum := "2b317fe9d26f9fd16c2d1e855146f75f48329d15c25e39498d4d4878252f7f11", func := "loop.example/g01000/laws.FnInverses", spec := "fnInverses", apart := false }
def FnInversesSaid : Prop := fnInversesRow.holds Try.pinned (OpenSpec.ofChange fnInversesSpec)

/-- ITS FALSE NEIGHBOUR: 'it returns false'. Refute it at one input. -/
def fnInversesWrong : ChangeSpec := { name := "fnInverses", fn := fun _ => fun
  | [d] => { results := [.lit (.bool false)], args := [d] }
  | _ => none }
def FnInversesWrongFalsely : Prop := fnInversesRow.holds Try.pinned (OpenSpec.ofChange fnInversesWrong)

/-- 'laws.FnResiduePowers': WHATEVER THE INPUT: true; the input reads as it did. -/
def fnResiduePowersSpec : ChangeSpec := { name := "fnResiduePowers", fn := fun _ => fun
  | [d] => { results := [.lit (.bool true)], args := [d] }
  | _ => none }
def fnResiduePowersRow : OpenClaim := { program := "ytnajgfgnmoihaaa", sum := "2b317fe9d26f9fd16c2d1e855146f75f48329d15c25e39498d4d4878252f7f11", func := "loop.example/g01000/laws.FnResiduePowers", spec := "fnResiduePowers", apart := false }
def FnResiduePowersSaid : Prop := fnResiduePowersRow.holds Try.pinned (OpenSpec.ofChange fnResiduePowersSpec)

/-- ITS FALSE NEIGHBOUR: 'it returns false'. Refute it at one input. -/
def fnResiduePowersWrong : ChangeSpec := { name := "fnResiduePowers", fn := fun _ => fun
  | [d] => { results := [.lit (.bool false)], args := [d] }
  | _ => none }
def FnResiduePowersWrongFalsely : Prop := fnResiduePowersRow.holds Try.pinned (OpenSpec.ofChange fnResiduePowersWrong)

/-- 'laws.FnRootsOfPrimes': WHATEVER THE INPUT: true; the input reads as it did. -/
def fnRootsOfPrimesSpec : ChangeSpec := { name := "fnRootsOfPrimes", fn := fun _ => fun
  | [d] => { results := [.lit (.bool true)], args := [d] }
  | _ => none }
def fnRootsOfPrimesRow : OpenClaim := { program := "ytnajgfgnmoihaaa", sum := "2b317fe9d26f9fd16c2d1e855146f75f48329d15c25e39498d4d4878252f7f11", func := "loop.example/g01000/laws.FnRootsOfPrimes", spec := "fnRootsOfPrimes", apart := false }
def FnRootsOfPrimesSaid : Prop := fnRootsOfPrimesRow.holds Try.pinned (OpenSpec.ofChange fnRootsOfPrimesSpec)

/-- ITS FALSE NEIGHBOUR: 'it returns false'. Refute it at one input. -/
def fnRootsOfPrimesWrong : ChangeSpec := { name := "fnRootsOfPrimes", fn := fun _ => fun
  | [d] => { results := [.lit (.bool false)], args := [d] }
  | _ => none }
def FnRootsOfPrimesWrongFalsely : Prop := fnRootsOfPrimesRow.holds Try.pinned (OpenSpec.ofChange fnRootsOfPrimesWrong)

/-- 'laws.FnExactIsRing': WHATEVER THE INPUT: true; the input reads as it did. -/
def fnExactIsRingSpec : ChangeSpec := { name := "fnExactIsRing", fn := fun _ => fun
  | [d] => { results := [.lit (.bool true)], args := [d] }
  | _ => none }
def fnExactIsRingRow : OpenClaim := { program := "ytnajgfgnmoihaaa", sum := "2b317fe9d26f9fd16c2d1e855146f75f48329d15c25e39498d4d4878252f7f11", func := "loop.example/g01000/laws.FnExactIsRing", spec := "fnExactIsRing", apart := false }
def FnExactIsRingSaid : Prop := fnExactIsRingRow.holds Try.pinned (OpenSpec.ofChange fnExactIsRingSpec)

/-- ITS FALSE NEIGHBOUR: 'it returns false'. Refute it at one input. -/
def fnExactIsRingWrong : ChangeSpec := { name := "fnExactIsRing", fn := fun _ => fun
  | [d] => { results := [.lit (.bool false)], args := [d] }
  | _ => none }
def FnExactIsRingWrongFalsely : Prop := fnExactIsRingRow.holds Try.pinned (OpenSpec.ofChange fnExactIsRingWrong)

/-- 'laws.FnExactModulusOf': WHATEVER THE INPUT: true; the input reads as it did. -/
def fnExactModulusOfSpec : ChangeSpec := { name := "fnExactModulusOf", fn := fun _ => fun
  | [d] => { results := [.lit (.bool true)], args := [d] }
  | _ => none }
def fnExactModulusOfRow : OpenClaim := { program := "ytnajgfgnmoihaaa", sum := "2b317fe9d26f9fd16c2d1e855146f75f48329d15c25e39498d4d4878252f7f11", func := "loop.example/g01000/laws.FnExactModulusOf", spec := "fnExactModulusOf", apart := false }
def FnExactModulusOfSaid : Prop := fnExactModulusOfRow.holds Try.pinned (OpenSpec.ofChange fnExactModulusOfSpec)

/-- ITS FALSE NEIGHBOUR: 'it returns false'. Refute it at one input. -/
def fnExactModulusOfWrong : ChangeSpec := { name := "fnExactModulusOf", fn := fun _ => fun
  | [d] => { results := [.lit (.bool false)], args := [d] }
  | _ => none }
def FnExactModulusOfWrongFalsely : Prop := fnExactModulusOfRow.holds Try.pinned (OpenSpec.ofChange fnExactModulusOfWrong)

/-- 'laws.FnExactReduceTo': WHATEVER THE INPUT: true; the input reads as it did. -/
def fnExactReduceToSpec : ChangeSpec := { name := "fnExactReduceTo", fn := fun _ => fun
  | [d1, d2] => { results := [.lit (.bool true)], args := [d1, d2] }
  | _ => none }
def fnExactReduceToRow : OpenClaim := { program := "ytnajgfgnmoihaaa", sum := "2b317fe9d26f9fd16c2d1e855146f75f48329d15c25e39498d4d4878252f7f11", func := "loop.example/g01000/laws.FnExactReduceTo", spec := "fnExactReduceTo", apart := false }
def FnExactReduceToSaid : Prop := fnExactReduceToRow.holds Try.pinned (OpenSpec.ofChange fnExactReduceToSpec)

/-- ITS FALSE NEIGHBOUR: 'it returns false'. Refute it at one input. -/
def fnExactReduceToWrong : ChangeSpec := { name := "fnExactReduceTo", fn := fun _ => fun
  | [d1, d2] => { results := [.lit (.bool false)], args := [d1, d2] }
  | _ => none }
def FnExactReduceToWrongFalsely : Prop := fnExactReduceToRow.holds Try.pinned (OpenSpec.ofChange fnExactReduceToWrong)

/-- 'laws.FnExactInverseOf': WHATEVER THE INPUT: true; the input reads as it did. -/
def fnExactInverseOfSpec : ChangeSpec := { name := "fnExactInverseOf", fn := fun _ => fun
  | [d1, d2] => { results := [.lit (.bool true)], args := [d1, d2] }
  | _ => none }
def fnExactInverseOfRow : OpenClaim := { program := "ytnajgfgnmoihaaa", sum := "2b317fe9d26f9fd16c2d1e855146f75f48329d15c25e39498d4d4878252f7f11", func := "loop.example/g01000/laws.FnExactInverseOf", spec := "fnExactInverseOf", apart := false }
def FnExactInverseOfSaid : Prop := fnExactInverseOfRow.holds Try.pinned (OpenSpec.ofChange fnExactInverseOfSpec)

/-- ITS FALSE NEIGHBOUR: 'it returns false'. Refute it at one input. -/
def fnExactInverseOfWrong : ChangeSpec := { name := "fnExactInverseOf", fn := fun _ => fun
  | [d1, d2] => { results := [.lit (.bool false)], args := [d1, d2] }
  | _ => none }
def FnExactInverseOfWrongFalsely : Prop := fnExactInverseOfRow.holds Try.pinned (OpenSpec.ofChange fnExactInverseOfWrong)

/-- 'laws.FnExactPowerOf': WHATEVER THE INPUT: true; the input reads as it did. -/
def fnExactPowerOfSpec : ChangeSpec := { name := "fnExactPowerOf", fn := fun _ => fun
  | [d1, d2, d3] => { results := [.lit (.bool true)], args := [d1, d2, d3] }
  | _ => none }
def fnExactPowerOfRow : OpenClaim := { program := "ytnajgfgnmoihaaa", sum := "2b317fe9d26f9fd16c2d1e855146f75f48329d15c25e39498d4d4878252f7f11", func := "loop.example/g01000/laws.FnExactPowerOf", spec := "fnExactPowerOf", apart := false }
def FnExactPowerOfSaid : Prop := fnExactPowerOfRow.holds Try.pinned (OpenSpec.ofChange fnExactPowerOfSpec)

/-- ITS FALSE NEIGHBOUR: 'it returns false'. Refute it at one input. -/
def fnExactPowerOfWrong : ChangeSpec := { name := "fnExactPowerOf", fn := fun _ => fun
  | [d1, d2, d3] => { results := [.lit (.bool false)], args := [d1, d2, d3] }
  | _ => none }
def FnExactPowerOfWrongFalsely : Prop := fnExactPowerOfRow.holds Try.pinned (OpenSpec.ofChange fnExactPowerOfWrong)

/-- 'laws.FnExactOrderOf': WHATEVER THE INPUT: true; the input reads as it did. -/
def fnExactOrderOfSpec : ChangeSpec := { name := "fnExactOrderOf", fn := fun _ => fun
  | [d1, d2] => { results := [.lit (.bool true)], args := [d1, d2] }
  | _ => none }
def fnExactOrderOfRow : OpenClaim := { program := "ytnajgfgnmoihaaa", sum := "2b317fe9d26f9fd16c2d1e855146f75f48329d15c25e39498d4d4878252f7f11", func := "loop.example/g01000/laws.FnExactOrderOf", spec := "fnExactOrderOf", apart := false }
def FnExactOrderOfSaid : Prop := fnExactOrderOfRow.holds Try.pinned (OpenSpec.ofChange fnExactOrderOfSpec)

/-- ITS FALSE NEIGHBOUR: 'it returns false'. Refute it at one input. -/
def fnExactOrderOfWrong : ChangeSpec := { name := "fnExactOrderOf", fn := fun _ => fun
  | [d1, d2] => { results := [.lit (.bool false)], args := [d1, d2] }
  | _ => none }
def FnExactOrderOfWrongFalsely : Prop := fnExactOrderOfRow.holds Try.pinned (OpenSpec.ofChange fnExactOrderOfWrong)

/-- 'laws.FnExactCountUnits': WHATEVER THE INPUT: true; the input reads as it did. -/
def fnExactCountUnitsSpec : ChangeSpec := { name := "fnExactCountUnits", fn := fun _ => fun
  | [d] => { results := [.lit (.bool true)], args := [d] }
  | _ => none }
def fnExactCountUnitsRow : OpenClaim := { program := "ytnajgfgnmoihaaa", sum := "2b317fe9d26f9fd16c2d1e855146f75f48329d15c25e39498d4d4878252f7f11", func := "loop.example/g01000/laws.FnExactCountUnits", spec := "fnExactCountUnits", apart := false }
def FnExactCountUnitsSaid : Prop := fnExactCountUnitsRow.holds Try.pinned (OpenSpec.ofChange fnExactCountUnitsSpec)

/-- ITS FALSE NEIGHBOUR: 'it returns false'. Refute it at one input. -/
def fnExactCountUnitsWrong : ChangeSpec := { name := "fnExactCountUnits", fn := fun _ => fun
  | [d] => { results := [.lit (.bool false)], args := [d] }
  | _ => none }
def FnExactCountUnitsWrongFalsely : Prop := fnExactCountUnitsRow.holds Try.pinned (OpenSpec.ofChange fnExactCountUnitsWrong)

/-- 'laws.FnExactPrimitiveRoot': WHATEVER THE INPUT: true; the input reads as it did. -/
def fnExactPrimitiveRootSpec : ChangeSpec := { name := "fnExactPrimitiveRoot", fn := fun _ => fun
  | [d] => { results := [.lit (.bool true)], args := [d] }
  | _ => none }
def fnExactPrimitiveRootRow : OpenClaim := { program := "ytnajgfgnmoihaaa", sum := "2b317fe9d26f9fd16c2d1e855146f75f48329d15c25e39498d4d4878252f7f11", func := "loop.example/g01000/laws.FnExactPrimitiveRoot", spec := "fnExactPrimitiveRoot", apart := false }
def FnExactPrimitiveRootSaid : Prop := fnExactPrimitiveRootRow.holds Try.pinned (OpenSpec.ofChange fnExactPrimitiveRootSpec)

/-- ITS FALSE NEIGHBOUR: 'it returns false'. Refute it at one input. -/
def fnExactPrimitiveRootWrong : ChangeSpec := { name := "fnExactPrimitiveRoot", fn := fun _ => fun
  | [d] => { results := [.lit (.bool false)], args := [d] }
  | _ => none }
def FnExactPrimitiveRootWrongFalsely : Prop := fnExactPrimitiveRootRow.holds Try.pinned (OpenSpec.ofChange fnExactPrimitiveRootWrong)

/-- 'laws.FnExactTeichmuellerOf': WHATEVER THE INPUT: true; the input reads as it did. -/
def fnExactTeichmuellerOfSpec : ChangeSpec := { name := "fnExactTeichmuellerOf", fn := fun _ => fun
  | [d1, d2] => { results := [.lit (.bool true)], args := [d1, d2] }
  | _ => none }
def fnExactTeichmuellerOfRow : OpenClaim := { program := "ytnajgfgnmoihaaa", sum := "2b317fe9d26f9fd16c2d1e855146f75f48329d15c25e39498d4d4878252f7f11", func := "loop.example/g01000/laws.FnExactTeichmuellerOf", spec := "fnExactTeichmuellerOf", apart := false }
def FnExactTeichmuellerOfSaid : Prop := fnExactTeichmuellerOfRow.holds Try.pinned (OpenSpec.ofChange fnExactTeichmuellerOfSpec)

/-- ITS FALSE NEIGHBOUR: 'it returns false'. Refute it at one input. -/
def fnExactTeichmuellerOfWrong : ChangeSpec := { name := "fnExactTeichmuellerOf", fn := fun _ => fun
  | [d1, d2] => { results := [.lit (.bool false)], args := [d1, d2] }
  | _ => none }
def FnExactTeichmuellerOfWrongFalsely : Prop := fnExactTeichmuellerOfRow.holds Try.pinned (OpenSpec.ofChange fnExactTeichmuellerOfWrong)

/-- 'laws.FnExactIsSquareResidue': WHATEVER THE INPUT: true; the input reads as it did. -/
def fnExactIsSquareResidueSpec : ChangeSpec := { name := "fnExactIsSquareResidue", fn := fun _ => fun
  | [d1, d2] => { results := [.lit (.bool true)], args := [d1, d2] }
  | _ => none }
def fnExactIsSquareResidueRow : OpenClaim := { program := "ytnajgfgnmoihaaa", sum := "2b317fe9d26f9fd16c2d1e855146f75f48329d15c25e39498d4d4878252f7f11", func := "loop.example/g01000/laws.FnExactIsSquareResidue", spec := "fnExactIsSquareResidue", apart := false }
def FnExactIsSquareResidueSaid : Prop := fnExactIsSquareResidueRow.holds Try.pinned (OpenSpec.ofChange fnExactIsSquareResidueSpec)

/-- ITS FALSE NEIGHBOUR: 'it returns false'. Refute it at one input. -/
def fnExactIsSquareResidueWrong : ChangeSpec := { name := "fnExactIsSquareResidue", fn := fun _ => fun
  | [d1, d2] => { results := [.lit (.bool false)], args := [d1, d2] }
  | _ => none }
def FnExactIsSquareResidueWrongFalsely : Prop := fnExactIsSquareResidueRow.holds Try.pinned (OpenSpec.ofChange fnExactIsSquareResidueWrong)

/- THE SECOND FORM. 'bulk': how many values and letters a reading holds, each counted each time it is reached (what is shared counts as often as it is met; a slice's spare places count too). A statement '..UptoSaid' is the law's where the arguments, and the package variables that the reading takes, are together of bulk at most 1048576: NARROWER than '..Said'. Prove '..Said' where nothing that the law and all that it calls make is longer than what came in: it says more and counts as full. Else prove '..UptoSaid'. A law counts once. -/
mutual
def uptoBulk {H : Type} : DataW H → Nat
  | .lit (.string bytes) => bytes.length + 1
  | .lit _ => 1
  | .nil => 1
  | .ptr d => uptoBulk d + 1
  | .slice elems spare => uptoBulkAll elems + uptoBulkAll spare + 1
  | .agg parts => uptoBulkAll parts + 1
  | .iface _ d => uptoBulk d + 1
  | .map entries => uptoBulkEntries entries + 1
  | .held _ => 1
def uptoBulkAll {H : Type} : List (DataW H) → Nat
  | [] => 0
  | d :: r => uptoBulk d + uptoBulkAll r
def uptoBulkEntries {H : Type} : List (Lit × DataW H) → Nat
  | [] => 0
  | x :: r => uptoBulkEntry x + uptoBulkEntries r
def uptoBulkEntry {H : Type} : Lit × DataW H → Nat
  | (.string bytes, d) => bytes.length + uptoBulk d + 1
  | (_, d) => uptoBulk d + 1
 end
def uptoSmall : (H : Type) → List (DataW H) → Bool := fun _ ds => decide (uptoBulkAll ds ≤ 1048576)
def OpenSpec.upto (s : _root_.Go.ChangeSpec) : _root_.Go.OpenSpec := { _root_.Go.OpenSpec.ofChange s with cond := some uptoSmall }

/-- 'laws.FnInverses', WHERE WHAT IT READS IS OF BULK AT MOST 1048576: true; the input reads as it did. -/
def fnInversesUptoRow : OpenClaim := { program := "ytnajgfgnmoihaaa", sum := "2b317fe9d26f9fd16c2d1e855146f75f48329d15c25e39498d4d4878252f7f11", func := "loop.example/g01000/laws.FnInverses", spec := "fnInverses", apart := false, narrowed := true }
def FnInversesUptoSaid : Prop := fnInversesUptoRow.holds Try.pinned (OpenSpec.upto fnInversesSpec)

/-- 'laws.FnResiduePowers', WHERE WHAT IT READS IS OF BULK AT MOST 1048576: true; the input reads as it did. -/
def fnResiduePowersUptoRow : OpenClaim := { program := "ytnajgfgnmoihaaa", sum := "2b317fe9d26f9fd16c2d1e855146f75f48329d15c25e39498d4d4878252f7f11", func := "loop.example/g01000/laws.FnResiduePowers", spec := "fnResiduePowers", apart := false, narrowed := true }
def FnResiduePowersUptoSaid : Prop := fnResiduePowersUptoRow.holds Try.pinned (OpenSpec.upto fnResiduePowersSpec)

/-- 'laws.FnRootsOfPrimes', WHERE WHAT IT READS IS OF BULK AT MOST 1048576: true; the input reads as it did. -/
def fnRootsOfPrimesUptoRow : OpenClaim := { program := "ytnajgfgnmoihaaa", sum := "2b317fe9d26f9fd16c2d1e855146f75f48329d15c25e39498d4d4878252f7f11", func := "loop.example/g01000/laws.FnRootsOfPrimes", spec := "fnRootsOfPrimes", apart := false, narrowed := true }
def FnRootsOfPrimesUptoSaid : Prop := fnRootsOfPrimesUptoRow.holds Try.pinned (OpenSpec.upto fnRootsOfPrimesSpec)

/-- 'laws.FnExactIsRing', WHERE WHAT IT READS IS OF BULK AT MOST 1048576: true; the input reads as it did. -/
def fnExactIsRingUptoRow : OpenClaim := { program := "ytnajgfgnmoihaaa", sum := "2b317fe9d26f9fd16c2d1e855146f75f48329d15c25e39498d4d4878252f7f11", func := "loop.example/g01000/laws.FnExactIsRing", spec := "fnExactIsRing", apart := false, narrowed := true }
def FnExactIsRingUptoSaid : Prop := fnExactIsRingUptoRow.holds Try.pinned (OpenSpec.upto fnExactIsRingSpec)

/-- 'laws.FnExactModulusOf', WHERE WHAT IT READS IS OF BULK AT MOST 1048576: true; the input reads as it did. -/
def fnExactModulusOfUptoRow : OpenClaim := { program := "ytnajgfgnmoihaaa", sum := "2b317fe9d26f9fd16c2d1e855146f75f48329d15c25e39498d4d4878252f7f11", func := "loop.example/g01000/laws.FnExactModulusOf", spec := "fnExactModulusOf", apart := false, narrowed := true }
def FnExactModulusOfUptoSaid : Prop := fnExactModulusOfUptoRow.holds Try.pinned (OpenSpec.upto fnExactModulusOfSpec)

/-- 'laws.FnExactReduceTo', WHERE WHAT IT READS IS OF BULK AT MOST 1048576: true; the input reads as it did. -/
def fnExactReduceToUptoRow : OpenClaim := { program := "ytnajgfgnmoihaaa", sum := "2b317fe9d26f9fd16c2d1e855146f75f48329d15c25e39498d4d4878252f7f11", func := "loop.example/g01000/laws.FnExactReduceTo", spec := "fnExactReduceTo", apart := false, narrowed := true }
def FnExactReduceToUptoSaid : Prop := fnExactReduceToUptoRow.holds Try.pinned (OpenSpec.upto fnExactReduceToSpec)

/-- 'laws.FnExactInverseOf', WHERE WHAT IT READS IS OF BULK AT MOST 1048576: true; the input reads as it did. -/
def fnExactInverseOfUptoRow : OpenClaim := { program := "ytnajgfgnmoihaaa", sum := "2b317fe9d26f9fd16c2d1e855146f75f48329d15c25e39498d4d4878252f7f11", func := "loop.example/g01000/laws.FnExactInverseOf", spec := "fnExactInverseOf", apart := false, narrowed := true }
def FnExactInverseOfUptoSaid : Prop := fnExactInverseOfUptoRow.holds Try.pinned (OpenSpec.upto fnExactInverseOfSpec)

/-- 'laws.FnExactPowerOf', WHERE WHAT IT READS IS OF BULK AT MOST 1048576: true; the input reads as it did. -/
def fnExactPowerOfUptoRow : OpenClaim := { program := "ytnajgfgnmoihaaa", sum := "2b317fe9d26f9fd16c2d1e855146f75f48329d15c25e39498d4d4878252f7f11", func := "loop.example/g01000/laws.FnExactPowerOf", spec := "fnExactPowerOf", apart := false, narrowed := true }
def FnExactPowerOfUptoSaid : Prop := fnExactPowerOfUptoRow.holds Try.pinned (OpenSpec.upto fnExactPowerOfSpec)

/-- 'laws.FnExactOrderOf', WHERE WHAT IT READS IS OF BULK AT MOST 1048576: true; the input reads as it did. -/
def fnExactOrderOfUptoRow : OpenClaim := { program := "ytnajgfgnmoihaaa", sum := "2b317fe9d26f9fd16c2d1e855146f75f48329d15c25e39498d4d4878252f7f11", func := "loop.example/g01000/laws.FnExactOrderOf", spec := "fnExactOrderOf", apart := false, narrowed := true }
def FnExactOrderOfUptoSaid : Prop := fnExactOrderOfUptoRow.holds Try.pinned (OpenSpec.upto fnExactOrderOfSpec)

/-- 'laws.FnExactCountUnits', WHERE WHAT IT READS IS OF BULK AT MOST 1048576: true; the input reads as it did. -/
def fnExactCountUnitsUptoRow : OpenClaim := { program := "ytnajgfgnmoihaaa", sum := "2b317fe9d26f9fd16c2d1e855146f75f48329d15c25e39498d4d4878252f7f11", func := "loop.example/g01000/laws.FnExactCountUnits", spec := "fnExactCountUnits", apart := false, narrowed := true }
def FnExactCountUnitsUptoSaid : Prop := fnExactCountUnitsUptoRow.holds Try.pinned (OpenSpec.upto fnExactCountUnitsSpec)

/-- 'laws.FnExactPrimitiveRoot', WHERE WHAT IT READS IS OF BULK AT MOST 1048576: true; the input reads as it did. -/
def fnExactPrimitiveRootUptoRow : OpenClaim := { program := "ytnajgfgnmoihaaa", sum := "2b317fe9d26f9fd16c2d1e855146f75f48329d15c25e39498d4d4878252f7f11", func := "loop.example/g01000/laws.FnExactPrimitiveRoot", spec := "fnExactPrimitiveRoot", apart := false, narrowed := true }
def FnExactPrimitiveRootUptoSaid : Prop := fnExactPrimitiveRootUptoRow.holds Try.pinned (OpenSpec.upto fnExactPrimitiveRootSpec)

/-- 'laws.FnExactTeichmuellerOf', WHERE WHAT IT READS IS OF BULK AT MOST 1048576: true; the input reads as it did. -/
def fnExactTeichmuellerOfUptoRow : OpenClaim := { program := "ytnajgfgnmoihaaa", sum := "2b317fe9d26f9fd16c2d1e855146f75f48329d15c25e39498d4d4878252f7f11", func := "loop.example/g01000/laws.FnExactTeichmuellerOf", spec := "fnExactTeichmuellerOf", apart := false, narrowed := true }
def FnExactTeichmuellerOfUptoSaid : Prop := fnExactTeichmuellerOfUptoRow.holds Try.pinned (OpenSpec.upto fnExactTeichmuellerOfSpec)

/-- 'laws.FnExactIsSquareResidue', WHERE WHAT IT READS IS OF BULK AT MOST 1048576: true; the input reads as it did. -/
def fnExactIsSquareResidueUptoRow : OpenClaim := { program := "ytnajgfgnmoihaaa", sum := "2b317fe9d26f9fd16c2d1e855146f75f48329d15c25e39498d4d4878252f7f11", func := "loop.example/g01000/laws.FnExactIsSquareResidue", spec := "fnExactIsSquareResidue", apart := false, narrowed := true }
def FnExactIsSquareResidueUptoSaid : Prop := fnExactIsSquareResidueUptoRow.holds Try.pinned (OpenSpec.upto fnExactIsSquareResidueSpec)

end Rows
end Go.Proofs.Ytnajgfgnmoihaaa
