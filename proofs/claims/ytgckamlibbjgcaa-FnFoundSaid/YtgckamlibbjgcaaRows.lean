/-
  No cell of these rows narrows 'for every input' (looked for: loops, veiled, ifaces, maps, wideKeys, modest, calm, conditions, laid).
  DERIVED. THE GIVEN ROWS OF THIS SEAT. 8 by the template 'for every input the law returns true; each argument reads behind the call as it read before'; 0 by the template 'total and deterministic' (their statements: YtgckamlibbjgcaaTotals.lean).
  GIVEN WITH THE SEED: the statements are not yours to turn. If you find one false, say at which input.
  Laid BY PROGRAM, IN A SANDBOX (cutbox-rows.mjs): the forced cells as the released guide's own fill.sh prints them over the translation 74a39b166b6fef66… (all of the seat's roots in one cut). By AI agents, Wed Nov 11 2026. No macro, syntax, notation, axiom, sorry.
-/
import Derived.Test.YtgckamlibbjgcaaChecked
import GoSem.Claim
import GoSem.ClaimJoined
import GoSem.ClaimMapViews
import Derived.JoinedTies
import Derived.KernelRfl
namespace Go.Proofs.Ytgckamlibbjgcaa
/- THE CELL 'sum', in the pinned program and in every row, IS THE sha256 OF THE DUMP (.gsa) THAT YtgckamlibbjgcaaProg.lean LOADS. Nothing in Lean hashes anything: it is a label: what it is worth is what the hold of that sum in a sandbox is worth. -/
noncomputable def Try.pinned : Pinned := { name := "ytgckamlibbjgcaa", sum := "74a39b166b6fef66c536b85c04299ca9abb3a3ecbdcb0fcadb414086ff2f9b03", checked := Try.checked }
namespace Rows
def none {H : Type} : Left H := { results := [], args := [] }

/-- 'laws.FnInverses': WHATEVER THE INPUT: true; the input reads as it did. -/
def fnInversesSpec : ChangeSpec := { name := "fnInverses", fn := fun _ => fun
  | [d] => { results := [.lit (.bool true)], args := [d] }
  | _ => none }
def fnInversesRow : OpenClaim := { program := "ytgckamlibbjgcaa", sum := "74a39b166b6fef66c536b85c04299ca9abb3a3ecbdcb0fcadb414086ff2f9b03", func := "loop.example/g01000/laws.FnInverses", spec := "fnInverses", apart := false }
def FnInversesSaid : Prop := fnInversesRow.holds Try.pinned (OpenSpec.ofChange fnInversesSpec)

/-- ITS FALSE NEIGHBOUR: 'it returns false'. Refute it at one input. -/
def fnInversesWrong : ChangeSpec := { name := "fnInverses", fn := fun _ => fun
  | [d] => { results := [.lit (.bool false)], args := [d] }
  | _ => none }
def FnInversesWrongFalsely : Prop := fnInversesRow.holds Try.pinned (OpenSpec.ofChange fnInversesWrong)

/-- 'laws.FnPadicProducts': WHATEVER THE INPUT: true; the input reads as it did. -/
def fnPadicProductsSpec : ChangeSpec := { name := "fnPadicProducts", fn := fun _ => fun
  | [d] => { results := [.lit (.bool true)], args := [d] }
  | _ => none }
def fnPadicProductsRow : OpenClaim := { program := "ytgckamlibbjgcaa", sum := "74a39b166b6fef66c536b85c04299ca9abb3a3ecbdcb0fcadb414086ff2f9b03", func := "loop.example/g01000/laws.FnPadicProducts", spec := "fnPadicProducts", apart := false }
def FnPadicProductsSaid : Prop := fnPadicProductsRow.holds Try.pinned (OpenSpec.ofChange fnPadicProductsSpec)

/-- ITS FALSE NEIGHBOUR: 'it returns false'. Refute it at one input. -/
def fnPadicProductsWrong : ChangeSpec := { name := "fnPadicProducts", fn := fun _ => fun
  | [d] => { results := [.lit (.bool false)], args := [d] }
  | _ => none }
def FnPadicProductsWrongFalsely : Prop := fnPadicProductsRow.holds Try.pinned (OpenSpec.ofChange fnPadicProductsWrong)

/-- 'laws.FnParts': WHATEVER THE INPUT: true; the input reads as it did. -/
def fnPartsSpec : ChangeSpec := { name := "fnParts", fn := fun _ => fun
  | [d] => { results := [.lit (.bool true)], args := [d] }
  | _ => none }
def fnPartsRow : OpenClaim := { program := "ytgckamlibbjgcaa", sum := "74a39b166b6fef66c536b85c04299ca9abb3a3ecbdcb0fcadb414086ff2f9b03", func := "loop.example/g01000/laws.FnParts", spec := "fnParts", apart := false }
def FnPartsSaid : Prop := fnPartsRow.holds Try.pinned (OpenSpec.ofChange fnPartsSpec)

/-- ITS FALSE NEIGHBOUR: 'it returns false'. Refute it at one input. -/
def fnPartsWrong : ChangeSpec := { name := "fnParts", fn := fun _ => fun
  | [d] => { results := [.lit (.bool false)], args := [d] }
  | _ => none }
def FnPartsWrongFalsely : Prop := fnPartsRow.holds Try.pinned (OpenSpec.ofChange fnPartsWrong)

/-- 'laws.FnFound': WHATEVER THE INPUT: true; the input reads as it did. -/
def fnFoundSpec : ChangeSpec := { name := "fnFound", fn := fun _ => fun
  | [d] => { results := [.lit (.bool true)], args := [d] }
  | _ => none }
def fnFoundRow : OpenClaim := { program := "ytgckamlibbjgcaa", sum := "74a39b166b6fef66c536b85c04299ca9abb3a3ecbdcb0fcadb414086ff2f9b03", func := "loop.example/g01000/laws.FnFound", spec := "fnFound", unfollowed := true, recurses := true, apart := false }
def FnFoundSaid : Prop := fnFoundRow.holds Try.pinned (OpenSpec.ofChange fnFoundSpec)

/-- ITS FALSE NEIGHBOUR: 'it returns false'. Refute it at one input. -/
def fnFoundWrong : ChangeSpec := { name := "fnFound", fn := fun _ => fun
  | [d] => { results := [.lit (.bool false)], args := [d] }
  | _ => none }
def FnFoundWrongFalsely : Prop := fnFoundRow.holds Try.pinned (OpenSpec.ofChange fnFoundWrong)

/-- 'laws.FnExactInverseOf': WHATEVER THE INPUT: true; the input reads as it did. -/
def fnExactInverseOfSpec : ChangeSpec := { name := "fnExactInverseOf", fn := fun _ => fun
  | [d1, d2] => { results := [.lit (.bool true)], args := [d1, d2] }
  | _ => none }
def fnExactInverseOfRow : OpenClaim := { program := "ytgckamlibbjgcaa", sum := "74a39b166b6fef66c536b85c04299ca9abb3a3ecbdcb0fcadb414086ff2f9b03", func := "loop.example/g01000/laws.FnExactInverseOf", spec := "fnExactInverseOf", apart := false }
def FnExactInverseOfSaid : Prop := fnExactInverseOfRow.holds Try.pinned (OpenSpec.ofChange fnExactInverseOfSpec)

/-- ITS FALSE NEIGHBOUR: 'it returns false'. Refute it at one input. -/
def fnExactInverseOfWrong : ChangeSpec := { name := "fnExactInverseOf", fn := fun _ => fun
  | [d1, d2] => { results := [.lit (.bool false)], args := [d1, d2] }
  | _ => none }
def FnExactInverseOfWrongFalsely : Prop := fnExactInverseOfRow.holds Try.pinned (OpenSpec.ofChange fnExactInverseOfWrong)

/-- 'laws.FnExactInvertPadic': WHATEVER THE INPUT: true; the input reads as it did. -/
def fnExactInvertPadicSpec : ChangeSpec := { name := "fnExactInvertPadic", fn := fun _ => fun
  | [d] => { results := [.lit (.bool true)], args := [d] }
  | _ => none }
def fnExactInvertPadicRow : OpenClaim := { program := "ytgckamlibbjgcaa", sum := "74a39b166b6fef66c536b85c04299ca9abb3a3ecbdcb0fcadb414086ff2f9b03", func := "loop.example/g01000/laws.FnExactInvertPadic", spec := "fnExactInvertPadic", apart := false }
def FnExactInvertPadicSaid : Prop := fnExactInvertPadicRow.holds Try.pinned (OpenSpec.ofChange fnExactInvertPadicSpec)

/-- ITS FALSE NEIGHBOUR: 'it returns false'. Refute it at one input. -/
def fnExactInvertPadicWrong : ChangeSpec := { name := "fnExactInvertPadic", fn := fun _ => fun
  | [d] => { results := [.lit (.bool false)], args := [d] }
  | _ => none }
def FnExactInvertPadicWrongFalsely : Prop := fnExactInvertPadicRow.holds Try.pinned (OpenSpec.ofChange fnExactInvertPadicWrong)

/-- 'laws.FnExactPadicOf': WHATEVER THE INPUT: true; the input reads as it did. -/
def fnExactPadicOfSpec : ChangeSpec := { name := "fnExactPadicOf", fn := fun _ => fun
  | [d1, d2] => { results := [.lit (.bool true)], args := [d1, d2] }
  | _ => none }
def fnExactPadicOfRow : OpenClaim := { program := "ytgckamlibbjgcaa", sum := "74a39b166b6fef66c536b85c04299ca9abb3a3ecbdcb0fcadb414086ff2f9b03", func := "loop.example/g01000/laws.FnExactPadicOf", spec := "fnExactPadicOf", apart := false }
def FnExactPadicOfSaid : Prop := fnExactPadicOfRow.holds Try.pinned (OpenSpec.ofChange fnExactPadicOfSpec)

/-- ITS FALSE NEIGHBOUR: 'it returns false'. Refute it at one input. -/
def fnExactPadicOfWrong : ChangeSpec := { name := "fnExactPadicOf", fn := fun _ => fun
  | [d1, d2] => { results := [.lit (.bool false)], args := [d1, d2] }
  | _ => none }
def FnExactPadicOfWrongFalsely : Prop := fnExactPadicOfRow.holds Try.pinned (OpenSpec.ofChange fnExactPadicOfWrong)

/-- 'laws.FnExactDoAgree': WHATEVER THE INPUT: true; the input reads as it did. -/
def fnExactDoAgreeSpec : ChangeSpec := { name := "fnExactDoAgree", fn := fun _ => fun
  | [d1, d2] => { results := [.lit (.bool true)], args := [d1, d2] }
  | _ => none }
def fnExactDoAgreeRow : OpenClaim := { program := "ytgckamlibbjgcaa", sum := "74a39b166b6fef66c536b85c04299ca9abb3a3ecbdcb0fcadb414086ff2f9b03", func := "loop.example/g01000/laws.FnExactDoAgree", spec := "fnExactDoAgree", apart := false }
def FnExactDoAgreeSaid : Prop := fnExactDoAgreeRow.holds Try.pinned (OpenSpec.ofChange fnExactDoAgreeSpec)

/-- ITS FALSE NEIGHBOUR: 'it returns false'. Refute it at one input. -/
def fnExactDoAgreeWrong : ChangeSpec := { name := "fnExactDoAgree", fn := fun _ => fun
  | [d1, d2] => { results := [.lit (.bool false)], args := [d1, d2] }
  | _ => none }
def FnExactDoAgreeWrongFalsely : Prop := fnExactDoAgreeRow.holds Try.pinned (OpenSpec.ofChange fnExactDoAgreeWrong)

/- THE SECOND FORM. 'bulk': how many values and letters a reading holds, each counted each time it is reached (what is shared counts as often as it is met; a slice's spare places count too). A statement '..UptoSaid' is the law's where the arguments, and the package variables that the reading takes, are together of bulk at most 1048576: NARROWER than '..Said'. Prove '..Said' where nothing that the law and all that it calls make is longer than what came in: it says more and counts as full. Else prove '..UptoSaid'. A law counts once. -/
mutual
def uptoBulk {H : Type} : DataW H → Nat
  | .lit (.string bytes) => bytes.length + 1
  | .lit _ => 1
  | .nil => 1
  | .ptr d => uptoBulk d + 1
  | .slice elems spare => uptoBulkAll elems + uptoBulkAll spare + 1
  | .agg parts => uptoBulkAll parts + 1
  | .iface _ d => uptoBulk d + 1
  | .map entries => uptoBulkEntries entries + 1
  | .held _ => 1
def uptoBulkAll {H : Type} : List (DataW H) → Nat
  | [] => 0
  | d :: r => uptoBulk d + uptoBulkAll r
def uptoBulkEntries {H : Type} : List (Lit × DataW H) → Nat
  | [] => 0
  | x :: r => uptoBulkEntry x + uptoBulkEntries r
def uptoBulkEntry {H : Type} : Lit × DataW H → Nat
  | (.string bytes, d) => bytes.length + uptoBulk d + 1
  | (_, d) => uptoBulk d + 1
 end
def uptoSmall : (H : Type) → List (DataW H) → Bool := fun _ ds => decide (uptoBulkAll ds ≤ 1048576)
def OpenSpec.upto (s : _root_.Go.ChangeSpec) : _root_.Go.OpenSpec := { _root_.Go.OpenSpec.ofChange s with cond := some uptoSmall }

/-- 'laws.FnInverses', WHERE WHAT IT READS IS OF BULK AT MOST 1048576: true; the input reads as it did. -/
def fnInversesUptoRow : OpenClaim := { program := "ytgckamlibbjgcaa", sum := "74a39b166b6fef66c536b85c04299ca9abb3a3ecbdcb0fcadb414086ff2f9b03", func := "loop.example/g01000/laws.FnInverses", spec := "fnInverses", apart := false, narrowed := true }
def FnInversesUptoSaid : Prop := fnInversesUptoRow.holds Try.pinned (OpenSpec.upto fnInversesSpec)

/-- 'laws.FnPadicProducts', WHERE WHAT IT READS IS OF BULK AT MOST 1048576: true; the input reads as it did. -/
def fnPadicProductsUptoRow : OpenClaim := { program := "ytgckamlibbjgcaa", sum := "74a39b166b6fef66c536b85c04299ca9abb3a3ecbdcb0fcadb414086ff2f9b03", func := "loop.example/g01000/laws.FnPadicProducts", spec := "fnPadicProducts", apart := false, narrowed := true }
def FnPadicProductsUptoSaid : Prop := fnPadicProductsUptoRow.holds Try.pinned (OpenSpec.upto fnPadicProductsSpec)

/-- 'laws.FnParts', WHERE WHAT IT READS IS OF BULK AT MOST 1048576: true; the input reads as it did. -/
def fnPartsUptoRow : OpenClaim := { program := "ytgckamlibbjgcaa", sum := "74a39b166b6fef66c536b85c04299ca9abb3a3ecbdcb0fcadb414086ff2f9b03", func := "loop.example/g01000/laws.FnParts", spec := "fnParts", apart := false, narrowed := true }
def FnPartsUptoSaid : Prop := fnPartsUptoRow.holds Try.pinned (OpenSpec.upto fnPartsSpec)

/-- 'laws.FnFound', WHERE WHAT IT READS IS OF BULK AT MOST 1048576: true; the input reads as it did. -/
def fnFoundUptoRow : OpenClaim := { program := "ytgckamlibbjgcaa", sum := "74a39b166b6fef66c536b85c04299ca9abb3a3ecbdcb0fcadb414086ff2f9b03", func := "loop.example/g01000/laws.FnFound", spec := "fnFound", unfollowed := true, recurses := true, apart := false, narrowed := true }
def FnFoundUptoSaid : Prop := fnFoundUptoRow.holds Try.pinned (OpenSpec.upto fnFoundSpec)

/-- 'laws.FnExactInverseOf', WHERE WHAT IT READS IS OF BULK AT MOST 1048576: true; the input reads as it did. -/
def fnExactInverseOfUptoRow : OpenClaim := { program := "ytgckamlibbjgcaa", sum := "74a39b166b6fef66c536b85c04299ca9abb3a3ecbdcb0fcadb414086ff2f9b03", func := "loop.example/g01000/laws.FnExactInverseOf", spec := "fnExactInverseOf", apart := false, narrowed := true }
def FnExactInverseOfUptoSaid : Prop := fnExactInverseOfUptoRow.holds Try.pinned (OpenSpec.upto fnExactInverseOfSpec)

/-- 'laws.FnExactInvertPadic', WHERE WHAT IT READS IS OF BULK AT MOST 1048576: true; the input reads as it did. -/
def fnExactInvertPadicUptoRow : OpenClaim := { program := "ytgckamlibbjgcaa", sum := "74a39b166b6fef66c536b85c04299ca9abb3a3ecbdcb0fcadb414086ff2f9b03", func := "loop.example/g01000/laws.FnExactInvertPadic", spec := "fnExactInvertPadic", apart := false, narrowed := true }
def FnExactInvertPadicUptoSaid : Prop := fnExactInvertPadicUptoRow.holds Try.pinned (OpenSpec.upto fnExactInvertPadicSpec)

/-- 'laws.FnExactPadicOf', WHERE WHAT IT READS IS OF BULK AT MOST 1048576: true; the input reads as it did. -/
def fnExactPadicOfUptoRow : OpenClaim := { program := "ytgckamlibbjgcaa", sum := "74a39b166b6fef66c536b85c04299ca9abb3a3ecbdcb0fcadb414086ff2f9b03", func := "loop.example/g01000/laws.FnExactPadicOf", spec := "fnExactPadicOf", apart := false, narrowed := true }
def FnExactPadicOfUptoSaid : Prop := fnExactPadicOfUptoRow.holds Try.pinned (OpenSpec.upto fnExactPadicOfSpec)

/-- 'laws.FnExactDoAgree', WHERE WHAT IT READS IS OF BULK AT MOST 1048576: true; the input reads as it did. -/
def fnExactDoAgreeUptoRow : OpenClaim := { program := "ytgckamlibbjgcaa", sum := "74a39b166b6fef66c536b85c04299ca9abb3a3ecbdcb0fcadb414086ff2f9b03", func := "loop.example/g01000/laws.FnExactDoAgree", spec := "fnExactDoAgree", apart := false, narrowed := true }
def FnExactDoAgreeUptoSaid : Prop := fnExactDoAgreeUptoRow.holds Try.pinned (OpenSpec.upto fnExactDoAgreeSpec)

end Rows
end Go.Proofs.Ytgckamlibbjgcaa
