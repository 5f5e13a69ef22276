/-
  No cell of these rows narrows 'for every input' (looked for: loops, veiled, ifaces, maps, wideKeys, modest, calm, conditions, laid).
  DERIVED. THE GIVEN ROWS OF THIS SEAT. 11 by the template 'for every input the law returns true; each argument reads behind the call as it read before'; 0 by the template 'total and deterministic' (their statements: YtbjkcoajabcibaaTotals.lean).
  GIVEN WITH THE SEED: the statements are not yours to turn. If you find one false, say at which input.
  Laid BY PROGRAM, IN A SANDBOX (cutbox-rows.mjs): the forced cells as the released guide's own fill.sh prints them over the translation 06bcf9af3e04ed09… (all of the seat's roots in one cut). By AI agents, Wed Nov 11 2026. No macro, syntax, notation, axiom, sorry.
-/
import Derived.Test.YtbjkcoajabcibaaChecked
import GoSem.Claim
import GoSem.ClaimJoined
import GoSem.ClaimMapViews
import Derived.JoinedTies
import Derived.KernelRfl
namespace Go.Proofs.Ytbjkcoajabcibaa
/- THE CELL 'sum', in the pinned program and in every row, IS THE sha256 OF THE DUMP (.gsa) THAT YtbjkcoajabcibaaProg.lean LOADS. Nothing in Lean hashes anything: it is a label: what it is worth is what the hold of that sum in a sandbox is worth. -/
noncomputable def Try.pinned : Pinned := { name := "ytbjkcoajabcibaa", sum := "06bcf9af3e04ed099db22316d02275991bf682e941f1ca20bba83fe05d5f3970", checked := Try.checked }
namespace Rows
def none {H : Type} : Left H := { results := [], args := [] }

/-- 'laws.FnRingRoots': WHATEVER THE INPUT: true; the input reads as it did. -/
def fnRingRootsSpec : ChangeSpec := { name := "fnRingRoots", fn := fun _ => fun
  | [d] => { results := [.lit (.bool true)], args := [d] }
  | _ => none }
def fnRingRootsRow : OpenClaim := { program := "ytbjkcoajabcibaa", sum := "06bcf9af3e04ed099db22316d02275991bf682e941f1ca20bba83fe05d5f3970", func := "loop.example/g01000/laws.FnRingRoots", spec := "fnRingRoots", unfollowed := true, recurses := true, apart := false }
def FnRingRootsSaid : Prop := fnRingRootsRow.holds Try.pinned (OpenSpec.ofChange fnRingRootsSpec)

/-- ITS FALSE NEIGHBOUR: 'it returns false'. Refute it at one input. -/
def fnRingRootsWrong : ChangeSpec := { name := "fnRingRoots", fn := fun _ => fun
  | [d] => { results := [.lit (.bool false)], args := [d] }
  | _ => none }
def FnRingRootsWrongFalsely : Prop := fnRingRootsRow.holds Try.pinned (OpenSpec.ofChange fnRingRootsWrong)

/-- 'laws.FnRingProducts': WHATEVER THE INPUT: true; the input reads as it did. -/
def fnRingProductsSpec : ChangeSpec := { name := "fnRingProducts", fn := fun _ => fun
  | [d] => { results := [.lit (.bool true)], args := [d] }
  | _ => none }
def fnRingProductsRow : OpenClaim := { program := "ytbjkcoajabcibaa", sum := "06bcf9af3e04ed099db22316d02275991bf682e941f1ca20bba83fe05d5f3970", func := "loop.example/g01000/laws.FnRingProducts", spec := "fnRingProducts", unfollowed := true, recurses := true, apart := false }
def FnRingProductsSaid : Prop := fnRingProductsRow.holds Try.pinned (OpenSpec.ofChange fnRingProductsSpec)

/-- ITS FALSE NEIGHBOUR: 'it returns false'. Refute it at one input. -/
def fnRingProductsWrong : ChangeSpec := { name := "fnRingProducts", fn := fun _ => fun
  | [d] => { results := [.lit (.bool false)], args := [d] }
  | _ => none }
def FnRingProductsWrongFalsely : Prop := fnRingProductsRow.holds Try.pinned (OpenSpec.ofChange fnRingProductsWrong)

/-- 'laws.FnPairs': WHATEVER THE INPUT: true; the input reads as it did. -/
def fnPairsSpec : ChangeSpec := { name := "fnPairs", fn := fun _ => fun
  | [d] => { results := [.lit (.bool true)], args := [d] }
  | _ => none }
def fnPairsRow : OpenClaim := { program := "ytbjkcoajabcibaa", sum := "06bcf9af3e04ed099db22316d02275991bf682e941f1ca20bba83fe05d5f3970", func := "loop.example/g01000/laws.FnPairs", spec := "fnPairs", unfollowed := true, recurses := true, apart := false }
def FnPairsSaid : Prop := fnPairsRow.holds Try.pinned (OpenSpec.ofChange fnPairsSpec)

/-- ITS FALSE NEIGHBOUR: 'it returns false'. Refute it at one input. -/
def fnPairsWrong : ChangeSpec := { name := "fnPairs", fn := fun _ => fun
  | [d] => { results := [.lit (.bool false)], args := [d] }
  | _ => none }
def FnPairsWrongFalsely : Prop := fnPairsRow.holds Try.pinned (OpenSpec.ofChange fnPairsWrong)

/-- 'laws.FnExactIsInRing': WHATEVER THE INPUT: true; the input reads as it did. -/
def fnExactIsInRingSpec : ChangeSpec := { name := "fnExactIsInRing", fn := fun _ => fun
  | [d1, d2] => { results := [.lit (.bool true)], args := [d1, d2] }
  | _ => none }
def fnExactIsInRingRow : OpenClaim := { program := "ytbjkcoajabcibaa", sum := "06bcf9af3e04ed099db22316d02275991bf682e941f1ca20bba83fe05d5f3970", func := "loop.example/g01000/laws.FnExactIsInRing", spec := "fnExactIsInRing", apart := false }
def FnExactIsInRingSaid : Prop := fnExactIsInRingRow.holds Try.pinned (OpenSpec.ofChange fnExactIsInRingSpec)

/-- ITS FALSE NEIGHBOUR: 'it returns false'. Refute it at one input. -/
def fnExactIsInRingWrong : ChangeSpec := { name := "fnExactIsInRing", fn := fun _ => fun
  | [d1, d2] => { results := [.lit (.bool false)], args := [d1, d2] }
  | _ => none }
def FnExactIsInRingWrongFalsely : Prop := fnExactIsInRingRow.holds Try.pinned (OpenSpec.ofChange fnExactIsInRingWrong)

/-- 'laws.FnExactMultiplyInRing': WHATEVER THE INPUT: true; the input reads as it did. -/
def fnExactMultiplyInRingSpec : ChangeSpec := { name := "fnExactMultiplyInRing", fn := fun _ => fun
  | [d1, d2, d3] => { results := [.lit (.bool true)], args := [d1, d2, d3] }
  | _ => none }
def fnExactMultiplyInRingRow : OpenClaim := { program := "ytbjkcoajabcibaa", sum := "06bcf9af3e04ed099db22316d02275991bf682e941f1ca20bba83fe05d5f3970", func := "loop.example/g01000/laws.FnExactMultiplyInRing", spec := "fnExactMultiplyInRing", apart := false }
def FnExactMultiplyInRingSaid : Prop := fnExactMultiplyInRingRow.holds Try.pinned (OpenSpec.ofChange fnExactMultiplyInRingSpec)

/-- ITS FALSE NEIGHBOUR: 'it returns false'. Refute it at one input. -/
def fnExactMultiplyInRingWrong : ChangeSpec := { name := "fnExactMultiplyInRing", fn := fun _ => fun
  | [d1, d2, d3] => { results := [.lit (.bool false)], args := [d1, d2, d3] }
  | _ => none }
def FnExactMultiplyInRingWrongFalsely : Prop := fnExactMultiplyInRingRow.holds Try.pinned (OpenSpec.ofChange fnExactMultiplyInRingWrong)

/-- 'laws.FnExactDivideInRing': WHATEVER THE INPUT: true; the input reads as it did. -/
def fnExactDivideInRingSpec : ChangeSpec := { name := "fnExactDivideInRing", fn := fun _ => fun
  | [d1, d2, d3] => { results := [.lit (.bool true)], args := [d1, d2, d3] }
  | _ => none }
def fnExactDivideInRingRow : OpenClaim := { program := "ytbjkcoajabcibaa", sum := "06bcf9af3e04ed099db22316d02275991bf682e941f1ca20bba83fe05d5f3970", func := "loop.example/g01000/laws.FnExactDivideInRing", spec := "fnExactDivideInRing", unfollowed := true, recurses := true, apart := false }
def FnExactDivideInRingSaid : Prop := fnExactDivideInRingRow.holds Try.pinned (OpenSpec.ofChange fnExactDivideInRingSpec)

/-- ITS FALSE NEIGHBOUR: 'it returns false'. Refute it at one input. -/
def fnExactDivideInRingWrong : ChangeSpec := { name := "fnExactDivideInRing", fn := fun _ => fun
  | [d1, d2, d3] => { results := [.lit (.bool false)], args := [d1, d2, d3] }
  | _ => none }
def FnExactDivideInRingWrongFalsely : Prop := fnExactDivideInRingRow.holds Try.pinned (OpenSpec.ofChange fnExactDivideInRingWrong)

/-- 'laws.FnExactImageOf': WHATEVER THE INPUT: true; the input reads as it did. -/
def fnExactImageOfSpec : ChangeSpec := { name := "fnExactImageOf", fn := fun _ => fun
  | [d1, d2] => { results := [.lit (.bool true)], args := [d1, d2] }
  | _ => none }
def fnExactImageOfRow : OpenClaim := { program := "ytbjkcoajabcibaa", sum := "06bcf9af3e04ed099db22316d02275991bf682e941f1ca20bba83fe05d5f3970", func := "loop.example/g01000/laws.FnExactImageOf", spec := "fnExactImageOf", apart := false }
def FnExactImageOfSaid : Prop := fnExactImageOfRow.holds Try.pinned (OpenSpec.ofChange fnExactImageOfSpec)

/-- ITS FALSE NEIGHBOUR: 'it returns false'. Refute it at one input. -/
def fnExactImageOfWrong : ChangeSpec := { name := "fnExactImageOf", fn := fun _ => fun
  | [d1, d2] => { results := [.lit (.bool false)], args := [d1, d2] }
  | _ => none }
def FnExactImageOfWrongFalsely : Prop := fnExactImageOfRow.holds Try.pinned (OpenSpec.ofChange fnExactImageOfWrong)

/-- 'laws.FnExactArePair': WHATEVER THE INPUT: true; the input reads as it did. -/
def fnExactArePairSpec : ChangeSpec := { name := "fnExactArePair", fn := fun _ => fun
  | [d1, d2, d3, d4] => { results := [.lit (.bool true)], args := [d1, d2, d3, d4] }
  | _ => none }
def fnExactArePairRow : OpenClaim := { program := "ytbjkcoajabcibaa", sum := "06bcf9af3e04ed099db22316d02275991bf682e941f1ca20bba83fe05d5f3970", func := "loop.example/g01000/laws.FnExactArePair", spec := "fnExactArePair", unfollowed := true, recurses := true, apart := false }
def FnExactArePairSaid : Prop := fnExactArePairRow.holds Try.pinned (OpenSpec.ofChange fnExactArePairSpec)

/-- ITS FALSE NEIGHBOUR: 'it returns false'. Refute it at one input. -/
def fnExactArePairWrong : ChangeSpec := { name := "fnExactArePair", fn := fun _ => fun
  | [d1, d2, d3, d4] => { results := [.lit (.bool false)], args := [d1, d2, d3, d4] }
  | _ => none }
def FnExactArePairWrongFalsely : Prop := fnExactArePairRow.holds Try.pinned (OpenSpec.ofChange fnExactArePairWrong)

/-- 'laws.FnExactLiftPair': WHATEVER THE INPUT: true; the input reads as it did. -/
def fnExactLiftPairSpec : ChangeSpec := { name := "fnExactLiftPair", fn := fun _ => fun
  | [d1, d2, d3, d4] => { results := [.lit (.bool true)], args := [d1, d2, d3, d4] }
  | _ => none }
def fnExactLiftPairRow : OpenClaim := { program := "ytbjkcoajabcibaa", sum := "06bcf9af3e04ed099db22316d02275991bf682e941f1ca20bba83fe05d5f3970", func := "loop.example/g01000/laws.FnExactLiftPair", spec := "fnExactLiftPair", unfollowed := true, recurses := true, apart := false }
def FnExactLiftPairSaid : Prop := fnExactLiftPairRow.holds Try.pinned (OpenSpec.ofChange fnExactLiftPairSpec)

/-- ITS FALSE NEIGHBOUR: 'it returns false'. Refute it at one input. -/
def fnExactLiftPairWrong : ChangeSpec := { name := "fnExactLiftPair", fn := fun _ => fun
  | [d1, d2, d3, d4] => { results := [.lit (.bool false)], args := [d1, d2, d3, d4] }
  | _ => none }
def FnExactLiftPairWrongFalsely : Prop := fnExactLiftPairRow.holds Try.pinned (OpenSpec.ofChange fnExactLiftPairWrong)

/-- 'laws.FnExactReduceToRing': WHATEVER THE INPUT: true; the input reads as it did. -/
def fnExactReduceToRingSpec : ChangeSpec := { name := "fnExactReduceToRing", fn := fun _ => fun
  | [d1, d2] => { results := [.lit (.bool true)], args := [d1, d2] }
  | _ => none }
def fnExactReduceToRingRow : OpenClaim := { program := "ytbjkcoajabcibaa", sum := "06bcf9af3e04ed099db22316d02275991bf682e941f1ca20bba83fe05d5f3970", func := "loop.example/g01000/laws.FnExactReduceToRing", spec := "fnExactReduceToRing", apart := false }
def FnExactReduceToRingSaid : Prop := fnExactReduceToRingRow.holds Try.pinned (OpenSpec.ofChange fnExactReduceToRingSpec)

/-- ITS FALSE NEIGHBOUR: 'it returns false'. Refute it at one input. -/
def fnExactReduceToRingWrong : ChangeSpec := { name := "fnExactReduceToRing", fn := fun _ => fun
  | [d1, d2] => { results := [.lit (.bool false)], args := [d1, d2] }
  | _ => none }
def FnExactReduceToRingWrongFalsely : Prop := fnExactReduceToRingRow.holds Try.pinned (OpenSpec.ofChange fnExactReduceToRingWrong)

/-- 'laws.FnExactProductOf': WHATEVER THE INPUT: true; the input reads as it did. -/
def fnExactProductOfSpec : ChangeSpec := { name := "fnExactProductOf", fn := fun _ => fun
  | [d1, d2] => { results := [.lit (.bool true)], args := [d1, d2] }
  | _ => none }
def fnExactProductOfRow : OpenClaim := { program := "ytbjkcoajabcibaa", sum := "06bcf9af3e04ed099db22316d02275991bf682e941f1ca20bba83fe05d5f3970", func := "loop.example/g01000/laws.FnExactProductOf", spec := "fnExactProductOf", apart := false }
def FnExactProductOfSaid : Prop := fnExactProductOfRow.holds Try.pinned (OpenSpec.ofChange fnExactProductOfSpec)

/-- ITS FALSE NEIGHBOUR: 'it returns false'. Refute it at one input. -/
def fnExactProductOfWrong : ChangeSpec := { name := "fnExactProductOf", fn := fun _ => fun
  | [d1, d2] => { results := [.lit (.bool false)], args := [d1, d2] }
  | _ => none }
def FnExactProductOfWrongFalsely : Prop := fnExactProductOfRow.holds Try.pinned (OpenSpec.ofChange fnExactProductOfWrong)

/- THE SECOND FORM. 'bulk': how many values and letters a reading holds, each counted each time it is reached (what is shared counts as often as it is met; a slice's spare places count too). A statement '..UptoSaid' is the law's where the arguments, and the package variables that the reading takes, are together of bulk at most 1048576: NARROWER than '..Said'. Prove '..Said' where nothing that the law and all that it calls make is longer than what came in: it says more and counts as full. Else prove '..UptoSaid'. A law counts once. -/
mutual
def uptoBulk {H : Type} : DataW H → Nat
  | .lit (.string bytes) => bytes.length + 1
  | .lit _ => 1
  | .nil => 1
  | .ptr d => uptoBulk d + 1
  | .slice elems spare => uptoBulkAll elems + uptoBulkAll spare + 1
  | .agg parts => uptoBulkAll parts + 1
  | .iface _ d => uptoBulk d + 1
  | .map entries => uptoBulkEntries entries + 1
  | .held _ => 1
def uptoBulkAll {H : Type} : List (DataW H) → Nat
  | [] => 0
  | d :: r => uptoBulk d + uptoBulkAll r
def uptoBulkEntries {H : Type} : List (Lit × DataW H) → Nat
  | [] => 0
  | x :: r => uptoBulkEntry x + uptoBulkEntries r
def uptoBulkEntry {H : Type} : Lit × DataW H → Nat
  | (.string bytes, d) => bytes.length + uptoBulk d + 1
  | (_, d) => uptoBulk d + 1
 end
def uptoSmall : (H : Type) → List (DataW H) → Bool := fun _ ds => decide (uptoBulkAll ds ≤ 1048576)
def OpenSpec.upto (s : _root_.Go.ChangeSpec) : _root_.Go.OpenSpec := { _root_.Go.OpenSpec.ofChange s with cond := some uptoSmall }

/-- 'laws.FnRingRoots', WHERE WHAT IT READS IS OF BULK AT MOST 1048576: true; the input reads as it did. -/
def fnRingRootsUptoRow : OpenClaim := { program := "ytbjkcoajabcibaa", sum := "06bcf9af3e04ed099db22316d02275991bf682e941f1ca20bba83fe05d5f3970", func := "loop.example/g01000/laws.FnRingRoots", spec := "fnRingRoots", unfollowed := true, recurses := true, apart := false, narrowed := true }
def FnRingRootsUptoSaid : Prop := fnRingRootsUptoRow.holds Try.pinned (OpenSpec.upto fnRingRootsSpec)

/-- 'laws.FnRingProducts', WHERE WHAT IT READS IS OF BULK AT MOST 1048576: true; the input reads as it did. -/
def fnRingProductsUptoRow : OpenClaim := { program := "ytbjkcoajabcibaa", sum := "06bcf9af3e04ed099db22316d02275991bf682e941f1ca20bba83fe05d5f3970", func := "loop.example/g01000/laws.FnRingProducts", spec := "fnRingProducts", unfollowed := true, recurses := true, apart := false, narrowed := true }
def FnRingProductsUptoSaid : Prop := fnRingProductsUptoRow.holds Try.pinned (OpenSpec.upto fnRingProductsSpec)

/-- 'laws.FnPairs', WHERE WHAT IT READS IS OF BULK AT MOST 1048576: true; the input reads as it did. -/
def fnPairsUptoRow : OpenClaim := { program := "ytbjkcoajabcibaa", sum := "06bcf9af3e04ed099db22316d02275991bf682e941f1ca20bba83fe05d5f3970", func := "loop.example/g01000/laws.FnPairs", spec := "fnPairs", unfollowed := true, recurses := true, apart := false, narrowed := true }
def FnPairsUptoSaid : Prop := fnPairsUptoRow.holds Try.pinned (OpenSpec.upto fnPairsSpec)

/-- 'laws.FnExactIsInRing', WHERE WHAT IT READS IS OF BULK AT MOST 1048576: true; the input reads as it did. -/
def fnExactIsInRingUptoRow : OpenClaim := { program := "ytbjkcoajabcibaa", sum := "06bcf9af3e04ed099db22316d02275991bf682e941f1ca20bba83fe05d5f3970", func := "loop.example/g01000/laws.FnExactIsInRing", spec := "fnExactIsInRing", apart := false, narrowed := true }
def FnExactIsInRingUptoSaid : Prop := fnExactIsInRingUptoRow.holds Try.pinned (OpenSpec.upto fnExactIsInRingSpec)

/-- 'laws.FnExactMultiplyInRing', WHERE WHAT IT READS IS OF BULK AT MOST 1048576: true; the input reads as it did. -/
def fnExactMultiplyInRingUptoRow : OpenClaim := { program := "ytbjkcoajabcibaa", sum := "06bcf9af3e04ed099db22316d02275991bf682e941f1ca20bba83fe05d5f3970", func := "loop.example/g01000/laws.FnExactMultiplyInRing", spec := "fnExactMultiplyInRing", apart := false, narrowed := true }
def FnExactMultiplyInRingUptoSaid : Prop := fnExactMultiplyInRingUptoRow.holds Try.pinned (OpenSpec.upto fnExactMultiplyInRingSpec)

/-- 'laws.FnExactDivideInRing', WHERE WHAT IT READS IS OF BULK AT MOST 1048576: true; the input reads as it did. -/
def fnExactDivideInRingUptoRow : OpenClaim := { program := "ytbjkcoajabcibaa", sum := "06bcf9af3e04ed099db22316d02275991bf682e941f1ca20bba83fe05d5f3970", func := "loop.example/g01000/laws.FnExactDivideInRing", spec := "fnExactDivideInRing", unfollowed := true, recurses := true, apart := false, narrowed := true }
def FnExactDivideInRingUptoSaid : Prop := fnExactDivideInRingUptoRow.holds Try.pinned (OpenSpec.upto fnExactDivideInRingSpec)

/-- 'laws.FnExactImageOf', WHERE WHAT IT READS IS OF BULK AT MOST 1048576: true; the input reads as it did. -/
def fnExactImageOfUptoRow : OpenClaim := { program := "ytbjkcoajabcibaa", sum := "06bcf9af3e04ed099db22316d02275991bf682e941f1ca20bba83fe05d5f3970", func := "loop.example/g01000/laws.FnExactImageOf", spec := "fnExactImageOf", apart := false, narrowed := true }
def FnExactImageOfUptoSaid : Prop := fnExactImageOfUptoRow.holds Try.pinned (OpenSpec.upto fnExactImageOfSpec)

/-- 'laws.FnExactArePair', WHERE WHAT IT READS IS OF BULK AT MOST 1048576: true; the input reads as it did. -/
def fnExactArePairUptoRow : OpenClaim := { program := "ytbjkcoajabcibaa", sum := "06bcf9af3e04ed099db22316d02275991bf682e941f1ca20bba83fe05d5f3970", func := "loop.example/g01000/laws.FnExactArePair", spec := "fnExactArePair", unfollowed := true, recurses := true, apart := false, narrowed := true }
def FnExactArePairUptoSaid : Prop := fnExactArePairUptoRow.holds Try.pinned (OpenSpec.upto fnExactArePairSpec)

/-- 'laws.FnExactLiftPair', WHERE WHAT IT READS IS OF BULK AT MOST 1048576: true; the input reads as it did. -/
def fnExactLiftPairUptoRow : OpenClaim := { program := "ytbjkcoajabcibaa", sum := "06bcf9af3e04ed099db22316d02275991bf682e941f1ca20bba83fe05d5f3970", func := "loop.example/g01000/laws.FnExactLiftPair", spec := "fnExactLiftPair", unfollowed := true, recurses := true, apart := false, narrowed := true }
def FnExactLiftPairUptoSaid : Prop := fnExactLiftPairUptoRow.holds Try.pinned (OpenSpec.upto fnExactLiftPairSpec)

/-- 'laws.FnExactReduceToRing', WHERE WHAT IT READS IS OF BULK AT MOST 1048576: true; the input reads as it did. -/
def fnExactReduceToRingUptoRow : OpenClaim := { program := "ytbjkcoajabcibaa", sum := "06bcf9af3e04ed099db22316d02275991bf682e941f1ca20bba83fe05d5f3970", func := "loop.example/g01000/laws.FnExactReduceToRing", spec := "fnExactReduceToRing", apart := false, narrowed := true }
def FnExactReduceToRingUptoSaid : Prop := fnExactReduceToRingUptoRow.holds Try.pinned (OpenSpec.upto fnExactReduceToRingSpec)

/-- 'laws.FnExactProductOf', WHERE WHAT IT READS IS OF BULK AT MOST 1048576: true; the input reads as it did. -/
def fnExactProductOfUptoRow : OpenClaim := { program := "ytbjkcoajabcibaa", sum := "06bcf9af3e04ed099db22316d02275991bf682e941f1ca20bba83fe05d5f3970", func := "loop.example/g01000/laws.FnExactProductOf", spec := "fnExactProductOf", apart := false, narrowed := true }
def FnExactProductOfUptoSaid : Prop := fnExactProductOfUptoRow.holds Try.pinned (OpenSpec.upto fnExactProductOfSpec)

end Rows
end Go.Proofs.Ytbjkcoajabcibaa
