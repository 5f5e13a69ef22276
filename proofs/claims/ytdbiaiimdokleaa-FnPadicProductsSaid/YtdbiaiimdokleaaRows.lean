/-
  No cell of these rows narrows 'for every input' (looked for: loops, veiled, ifaces, maps, wideKeys, modest, calm, conditions, laid).
  DERIVED. THE GIVEN ROWS OF THIS SEAT. 13 by the template 'for every input the law returns true; each argument reads behind the call as it read before'; 0 by the template 'total and deterministic' (their statements: YtdbiaiimdokleaaTotals.lean).
  GIVEN WITH THE SEED: the statements are not yours to turn. If you find one false, say at which input.
  Laid BY PROGRAM, IN A SANDBOX (cutbox-rows.mjs): the forced cells as the released guide's own fill.sh prints them over the translation b15be9a68977c4fc… (all of the seat's roots in one cut). By AI agents, Wed Nov 11 2026. No macro, syntax, notation, axiom, sorry.
-/
import Derived.Test.YtdbiaiimdokleaaChecked
import GoSem.Claim
import GoSem.ClaimJoined
import GoSem.ClaimMapViews
import Derived.JoinedTies
import Derived.KernelRfl
namespace Go.Proofs.Ytdbiaiimdokleaa
/- THE CELL 'sum', in the pinned program and in every row, IS THE sha256 OF THE DUMP (.gsa) THAT YtdbiaiimdokleaaProg.lean LOADS. Nothing in Lean hashes anything: it is a label: what it is worth is what the hold of that sum in a sandbox is worth. -/
noncomputable def Try.pinned : Pinned := { name := "ytdbiaiimdokleaa", sum := "b15be9a68977c4fcd8fa07223e16ec21bcfaf0d7bbf8a7436e9f47617cba6347", checked := Try.checked }
namespace Rows
def none {H : Type} : Left H := { results := [], args := [] }

/-- 'laws.FnPadicSums': WHATEVER THE INPUT: true; the input reads as it did. -/
def fnPadicSumsSpec : ChangeSpec := { name := "fnPadicSums", fn := fun _ => fun
  | [d] => { results := [.lit (.bool true)], args := [d] }
  | _ => none }
def fnPadicSumsRow : OpenClaim := { program := "ytdbiaiimdokleaa", sum := "b15be9a68977c4fcd8fa07223e16ec21bcfaf0d7bbf8a7436e9f47617cba6347", func := "loop.example/g01000/laws.FnPadicSums", spec := "fnPadicSums", apart := false }
def FnPadicSumsSaid : Prop := fnPadicSumsRow.holds Try.pinned (OpenSpec.ofChange fnPadicSumsSpec)

/-- ITS FALSE NEIGHBOUR: 'it returns false'. Refute it at one input. -/
def fnPadicSumsWrong : ChangeSpec := { name := "fnPadicSums", fn := fun _ => fun
  | [d] => { results := [.lit (.bool false)], args := [d] }
  | _ => none }
def FnPadicSumsWrongFalsely : Prop := fnPadicSumsRow.holds Try.pinned (OpenSpec.ofChange fnPadicSumsWrong)

/-- 'laws.FnPadicProducts': WHATEVER THE INPUT: true; the input reads as it did. -/
def fnPadicProductsSpec : ChangeSpec := { name := "fnPadicProducts", fn := fun _ => fun
  | [d] => { results := [.lit (.bool true)], args := [d] }
  | _ => none }
def fnPadicProductsRow : OpenClaim := { program := "ytdbiaiimdokleaa", sum := "b15be9a68977c4fcd8fa07223e16ec21bcfaf0d7bbf8a7436e9f47617cba6347", func := "loop.example/g01000/laws.FnPadicProducts", spec := "fnPadicProducts", apart := false }
def FnPadicProductsSaid : Prop := fnPadicProductsRow.holds Try.pinned (OpenSpec.ofChange fnPadicProductsSpec)

/-- ITS FALSE NEIGHBOUR: 'it returns false'. Refute it at one input. -/
def fnPadicProductsWrong : ChangeSpec := { name := "fnPadicProducts", fn := fun _ => fun
  | [d] => { results := [.lit (.bool false)], args := [d] }
  | _ => none }
def FnPadicProductsWrongFalsely : Prop := fnPadicProductsRow.holds Try.pinned (OpenSpec.ofChange fnPadicProductsWrong)

/-- 'laws.FnMadePadics': WHATEVER THE INPUT: true; the input reads as it did. -/
def fnMadePadicsSpec : ChangeSpec := { name := "fnMadePadics", fn := fun _ => fun
  | [d] => { results := [.lit (.bool true)], args := [d] }
  | _ => none }
def fnMadePadicsRow : OpenClaim := { program := "ytdbiaiimdokleaa", sum := "b15be9a68977c4fcd8fa07223e16ec21bcfaf0d7bbf8a7436e9f47617cba6347", func := "loop.example/g01000/laws.FnMadePadics", spec := "fnMadePadics", apart := false }
def FnMadePadicsSaid : Prop := fnMadePadicsRow.holds Try.pinned (OpenSpec.ofChange fnMadePadicsSpec)

/-- ITS FALSE NEIGHBOUR: 'it returns false'. Refute it at one input. -/
def fnMadePadicsWrong : ChangeSpec := { name := "fnMadePadics", fn := fun _ => fun
  | [d] => { results := [.lit (.bool false)], args := [d] }
  | _ => none }
def FnMadePadicsWrongFalsely : Prop := fnMadePadicsRow.holds Try.pinned (OpenSpec.ofChange fnMadePadicsWrong)

/-- 'laws.FnExactIsPadic': WHATEVER THE INPUT: true; the input reads as it did. -/
def fnExactIsPadicSpec : ChangeSpec := { name := "fnExactIsPadic", fn := fun _ => fun
  | [d] => { results := [.lit (.bool true)], args := [d] }
  | _ => none }
def fnExactIsPadicRow : OpenClaim := { program := "ytdbiaiimdokleaa", sum := "b15be9a68977c4fcd8fa07223e16ec21bcfaf0d7bbf8a7436e9f47617cba6347", func := "loop.example/g01000/laws.FnExactIsPadic", spec := "fnExactIsPadic", apart := false }
def FnExactIsPadicSaid : Prop := fnExactIsPadicRow.holds Try.pinned (OpenSpec.ofChange fnExactIsPadicSpec)

/-- ITS FALSE NEIGHBOUR: 'it returns false'. Refute it at one input. -/
def fnExactIsPadicWrong : ChangeSpec := { name := "fnExactIsPadic", fn := fun _ => fun
  | [d] => { results := [.lit (.bool false)], args := [d] }
  | _ => none }
def FnExactIsPadicWrongFalsely : Prop := fnExactIsPadicRow.holds Try.pinned (OpenSpec.ofChange fnExactIsPadicWrong)

/-- 'laws.FnExactMakePadic': WHATEVER THE INPUT: true; the input reads as it did. -/
def fnExactMakePadicSpec : ChangeSpec := { name := "fnExactMakePadic", fn := fun _ => fun
  | [d1, d2, d3] => { results := [.lit (.bool true)], args := [d1, d2, d3] }
  | _ => none }
def fnExactMakePadicRow : OpenClaim := { program := "ytdbiaiimdokleaa", sum := "b15be9a68977c4fcd8fa07223e16ec21bcfaf0d7bbf8a7436e9f47617cba6347", func := "loop.example/g01000/laws.FnExactMakePadic", spec := "fnExactMakePadic", apart := false }
def FnExactMakePadicSaid : Prop := fnExactMakePadicRow.holds Try.pinned (OpenSpec.ofChange fnExactMakePadicSpec)

/-- ITS FALSE NEIGHBOUR: 'it returns false'. Refute it at one input. -/
def fnExactMakePadicWrong : ChangeSpec := { name := "fnExactMakePadic", fn := fun _ => fun
  | [d1, d2, d3] => { results := [.lit (.bool false)], args := [d1, d2, d3] }
  | _ => none }
def FnExactMakePadicWrongFalsely : Prop := fnExactMakePadicRow.holds Try.pinned (OpenSpec.ofChange fnExactMakePadicWrong)

/-- 'laws.FnExactAddPadics': WHATEVER THE INPUT: true; the input reads as it did. -/
def fnExactAddPadicsSpec : ChangeSpec := { name := "fnExactAddPadics", fn := fun _ => fun
  | [d1, d2] => { results := [.lit (.bool true)], args := [d1, d2] }
  | _ => none }
def fnExactAddPadicsRow : OpenClaim := { program := "ytdbiaiimdokleaa", sum := "b15be9a68977c4fcd8fa07223e16ec21bcfaf0d7bbf8a7436e9f47617cba6347", func := "loop.example/g01000/laws.FnExactAddPadics", spec := "fnExactAddPadics", apart := false }
def FnExactAddPadicsSaid : Prop := fnExactAddPadicsRow.holds Try.pinned (OpenSpec.ofChange fnExactAddPadicsSpec)

/-- ITS FALSE NEIGHBOUR: 'it returns false'. Refute it at one input. -/
def fnExactAddPadicsWrong : ChangeSpec := { name := "fnExactAddPadics", fn := fun _ => fun
  | [d1, d2] => { results := [.lit (.bool false)], args := [d1, d2] }
  | _ => none }
def FnExactAddPadicsWrongFalsely : Prop := fnExactAddPadicsRow.holds Try.pinned (OpenSpec.ofChange fnExactAddPadicsWrong)

/-- 'laws.FnExactNegatePadic': WHATEVER THE INPUT: true; the input reads as it did. -/
def fnExactNegatePadicSpec : ChangeSpec := { name := "fnExactNegatePadic", fn := fun _ => fun
  | [d] => { results := [.lit (.bool true)], args := [d] }
  | _ => none }
def fnExactNegatePadicRow : OpenClaim := { program := "ytdbiaiimdokleaa", sum := "b15be9a68977c4fcd8fa07223e16ec21bcfaf0d7bbf8a7436e9f47617cba6347", func := "loop.example/g01000/laws.FnExactNegatePadic", spec := "fnExactNegatePadic", apart := false }
def FnExactNegatePadicSaid : Prop := fnExactNegatePadicRow.holds Try.pinned (OpenSpec.ofChange fnExactNegatePadicSpec)

/-- ITS FALSE NEIGHBOUR: 'it returns false'. Refute it at one input. -/
def fnExactNegatePadicWrong : ChangeSpec := { name := "fnExactNegatePadic", fn := fun _ => fun
  | [d] => { results := [.lit (.bool false)], args := [d] }
  | _ => none }
def FnExactNegatePadicWrongFalsely : Prop := fnExactNegatePadicRow.holds Try.pinned (OpenSpec.ofChange fnExactNegatePadicWrong)

/-- 'laws.FnExactMultiplyPadics': WHATEVER THE INPUT: true; the input reads as it did. -/
def fnExactMultiplyPadicsSpec : ChangeSpec := { name := "fnExactMultiplyPadics", fn := fun _ => fun
  | [d1, d2] => { results := [.lit (.bool true)], args := [d1, d2] }
  | _ => none }
def fnExactMultiplyPadicsRow : OpenClaim := { program := "ytdbiaiimdokleaa", sum := "b15be9a68977c4fcd8fa07223e16ec21bcfaf0d7bbf8a7436e9f47617cba6347", func := "loop.example/g01000/laws.FnExactMultiplyPadics", spec := "fnExactMultiplyPadics", apart := false }
def FnExactMultiplyPadicsSaid : Prop := fnExactMultiplyPadicsRow.holds Try.pinned (OpenSpec.ofChange fnExactMultiplyPadicsSpec)

/-- ITS FALSE NEIGHBOUR: 'it returns false'. Refute it at one input. -/
def fnExactMultiplyPadicsWrong : ChangeSpec := { name := "fnExactMultiplyPadics", fn := fun _ => fun
  | [d1, d2] => { results := [.lit (.bool false)], args := [d1, d2] }
  | _ => none }
def FnExactMultiplyPadicsWrongFalsely : Prop := fnExactMultiplyPadicsRow.holds Try.pinned (OpenSpec.ofChange fnExactMultiplyPadicsWrong)

/-- 'laws.FnExactInvertPadic': WHATEVER THE INPUT: true; the input reads as it did. -/
def fnExactInvertPadicSpec : ChangeSpec := { name := "fnExactInvertPadic", fn := fun _ => fun
  | [d] => { results := [.lit (.bool true)], args := [d] }
  | _ => none }
def fnExactInvertPadicRow : OpenClaim := { program := "ytdbiaiimdokleaa", sum := "b15be9a68977c4fcd8fa07223e16ec21bcfaf0d7bbf8a7436e9f47617cba6347", func := "loop.example/g01000/laws.FnExactInvertPadic", spec := "fnExactInvertPadic", apart := false }
def FnExactInvertPadicSaid : Prop := fnExactInvertPadicRow.holds Try.pinned (OpenSpec.ofChange fnExactInvertPadicSpec)

/-- ITS FALSE NEIGHBOUR: 'it returns false'. Refute it at one input. -/
def fnExactInvertPadicWrong : ChangeSpec := { name := "fnExactInvertPadic", fn := fun _ => fun
  | [d] => { results := [.lit (.bool false)], args := [d] }
  | _ => none }
def FnExactInvertPadicWrongFalsely : Prop := fnExactInvertPadicRow.holds Try.pinned (OpenSpec.ofChange fnExactInvertPadicWrong)

/-- 'laws.FnExactCutPadic': WHATEVER THE INPUT: true; the input reads as it did. -/
def fnExactCutPadicSpec : ChangeSpec := { name := "fnExactCutPadic", fn := fun _ => fun
  | [d1, d2] => { results := [.lit (.bool true)], args := [d1, d2] }
  | _ => none }
def fnExactCutPadicRow : OpenClaim := { program := "ytdbiaiimdokleaa", sum := "b15be9a68977c4fcd8fa07223e16ec21bcfaf0d7bbf8a7436e9f47617cba6347", func := "loop.example/g01000/laws.FnExactCutPadic", spec := "fnExactCutPadic", apart := false }
def FnExactCutPadicSaid : Prop := fnExactCutPadicRow.holds Try.pinned (OpenSpec.ofChange fnExactCutPadicSpec)

/-- ITS FALSE NEIGHBOUR: 'it returns false'. Refute it at one input. -/
def fnExactCutPadicWrong : ChangeSpec := { name := "fnExactCutPadic", fn := fun _ => fun
  | [d1, d2] => { results := [.lit (.bool false)], args := [d1, d2] }
  | _ => none }
def FnExactCutPadicWrongFalsely : Prop := fnExactCutPadicRow.holds Try.pinned (OpenSpec.ofChange fnExactCutPadicWrong)

/-- 'laws.FnExactAreEqualTo': WHATEVER THE INPUT: true; the input reads as it did. -/
def fnExactAreEqualToSpec : ChangeSpec := { name := "fnExactAreEqualTo", fn := fun _ => fun
  | [d1, d2] => { results := [.lit (.bool true)], args := [d1, d2] }
  | _ => none }
def fnExactAreEqualToRow : OpenClaim := { program := "ytdbiaiimdokleaa", sum := "b15be9a68977c4fcd8fa07223e16ec21bcfaf0d7bbf8a7436e9f47617cba6347", func := "loop.example/g01000/laws.FnExactAreEqualTo", spec := "fnExactAreEqualTo", apart := false }
def FnExactAreEqualToSaid : Prop := fnExactAreEqualToRow.holds Try.pinned (OpenSpec.ofChange fnExactAreEqualToSpec)

/-- ITS FALSE NEIGHBOUR: 'it returns false'. Refute it at one input. -/
def fnExactAreEqualToWrong : ChangeSpec := { name := "fnExactAreEqualTo", fn := fun _ => fun
  | [d1, d2] => { results := [.lit (.bool false)], args := [d1, d2] }
  | _ => none }
def FnExactAreEqualToWrongFalsely : Prop := fnExactAreEqualToRow.holds Try.pinned (OpenSpec.ofChange fnExactAreEqualToWrong)

/-- 'laws.FnExactEndOf': WHATEVER THE INPUT: true; the input reads as it did. -/
def fnExactEndOfSpec : ChangeSpec := { name := "fnExactEndOf", fn := fun _ => fun
  | [d] => { results := [.lit (.bool true)], args := [d] }
  | _ => none }
def fnExactEndOfRow : OpenClaim := { program := "ytdbiaiimdokleaa", sum := "b15be9a68977c4fcd8fa07223e16ec21bcfaf0d7bbf8a7436e9f47617cba6347", func := "loop.example/g01000/laws.FnExactEndOf", spec := "fnExactEndOf", apart := false }
def FnExactEndOfSaid : Prop := fnExactEndOfRow.holds Try.pinned (OpenSpec.ofChange fnExactEndOfSpec)

/-- ITS FALSE NEIGHBOUR: 'it returns false'. Refute it at one input. -/
def fnExactEndOfWrong : ChangeSpec := { name := "fnExactEndOf", fn := fun _ => fun
  | [d] => { results := [.lit (.bool false)], args := [d] }
  | _ => none }
def FnExactEndOfWrongFalsely : Prop := fnExactEndOfRow.holds Try.pinned (OpenSpec.ofChange fnExactEndOfWrong)

/-- 'laws.FnExactDigitAt': WHATEVER THE INPUT: true; the input reads as it did. -/
def fnExactDigitAtSpec : ChangeSpec := { name := "fnExactDigitAt", fn := fun _ => fun
  | [d1, d2] => { results := [.lit (.bool true)], args := [d1, d2] }
  | _ => none }
def fnExactDigitAtRow : OpenClaim := { program := "ytdbiaiimdokleaa", sum := "b15be9a68977c4fcd8fa07223e16ec21bcfaf0d7bbf8a7436e9f47617cba6347", func := "loop.example/g01000/laws.FnExactDigitAt", spec := "fnExactDigitAt", apart := false }
def FnExactDigitAtSaid : Prop := fnExactDigitAtRow.holds Try.pinned (OpenSpec.ofChange fnExactDigitAtSpec)

/-- ITS FALSE NEIGHBOUR: 'it returns false'. Refute it at one input. -/
def fnExactDigitAtWrong : ChangeSpec := { name := "fnExactDigitAt", fn := fun _ => fun
  | [d1, d2] => { results := [.lit (.bool false)], args := [d1, d2] }
  | _ => none }
def FnExactDigitAtWrongFalsely : Prop := fnExactDigitAtRow.holds Try.pinned (OpenSpec.ofChange fnExactDigitAtWrong)

/- THE SECOND FORM. 'bulk': how many values and letters a reading holds, each counted each time it is reached (what is shared counts as often as it is met; a slice's spare places count too). A statement '..UptoSaid' is the law's where the arguments, and the package variables that the reading takes, are together of bulk at most 1048576: NARROWER than '..Said'. Prove '..Said' where nothing that the law and all that it calls make is longer than what came in: it says more and counts as full. Else prove '..UptoSaid'. A law counts once. -/
mutual
def uptoBulk {H : Type} : DataW H → Nat
  | .lit (.string bytes) => bytes.length + 1
  | .lit _ => 1
  | .nil => 1
  | .ptr d => uptoBulk d + 1
  | .slice elems spare => uptoBulkAll elems + uptoBulkAll spare + 1
  | .agg parts => uptoBulkAll parts + 1
  | .iface _ d => uptoBulk d + 1
  | .map entries => uptoBulkEntries entries + 1
  | .held _ => 1
def uptoBulkAll {H : Type} : List (DataW H) → Nat
  | [] => 0
  | d :: r => uptoBulk d + uptoBulkAll r
def uptoBulkEntries {H : Type} : List (Lit × DataW H) → Nat
  | [] => 0
  | x :: r => uptoBulkEntry x + uptoBulkEntries r
def uptoBulkEntry {H : Type} : Lit × DataW H → Nat
  | (.string bytes, d) => bytes.length + uptoBulk d + 1
  | (_, d) => uptoBulk d + 1
 end
def uptoSmall : (H : Type) → List (DataW H) → Bool := fun _ ds => decide (uptoBulkAll ds ≤ 1048576)
def OpenSpec.upto (s : _root_.Go.ChangeSpec) : _root_.Go.OpenSpec := { _root_.Go.OpenSpec.ofChange s with cond := some uptoSmall }

/-- 'laws.FnPadicSums', WHERE WHAT IT READS IS OF BULK AT MOST 1048576: true; the input reads as it did. -/
def fnPadicSumsUptoRow : OpenClaim := { program := "ytdbiaiimdokleaa", sum := "b15be9a68977c4fcd8fa07223e16ec21bcfaf0d7bbf8a7436e9f47617cba6347", func := "loop.example/g01000/laws.FnPadicSums", spec := "fnPadicSums", apart := false, narrowed := true }
def FnPadicSumsUptoSaid : Prop := fnPadicSumsUptoRow.holds Try.pinned (OpenSpec.upto fnPadicSumsSpec)

/-- 'laws.FnPadicProducts', WHERE WHAT IT READS IS OF BULK AT MOST 1048576: true; the input reads as it did. -/
def fnPadicProductsUptoRow : OpenClaim := { program := "ytdbiaiimdokleaa", sum := "b15be9a68977c4fcd8fa07223e16ec21bcfaf0d7bbf8a7436e9f47617cba6347", func := "loop.example/g01000/laws.FnPadicProducts", spec := "fnPadicProducts", apart := false, narrowed := true }
def FnPadicProductsUptoSaid : Prop := fnPadicProductsUptoRow.holds Try.pinned (OpenSpec.upto fnPadicProductsSpec)

/-- 'laws.FnMadePadics', WHERE WHAT IT READS IS OF BULK AT MOST 1048576: true; the input reads as it did. -/
def fnMadePadicsUptoRow : OpenClaim := { program := "ytdbiaiimdokleaa", sum := "b15be9a68977c4fcd8fa07223e16ec21bcfaf0d7bbf8a7436e9f47617cba6347", func := "loop.example/g01000/laws.FnMadePadics", spec := "fnMadePadics", apart := false, narrowed := true }
def FnMadePadicsUptoSaid : Prop := fnMadePadicsUptoRow.holds Try.pinned (OpenSpec.upto fnMadePadicsSpec)

/-- 'laws.FnExactIsPadic', WHERE WHAT IT READS IS OF BULK AT MOST 1048576: true; the input reads as it did. -/
def fnExactIsPadicUptoRow : OpenClaim := { program := "ytdbiaiimdokleaa", sum := "b15be9a68977c4fcd8fa07223e16ec21bcfaf0d7bbf8a7436e9f47617cba6347", func := "loop.example/g01000/laws.FnExactIsPadic", spec := "fnExactIsPadic", apart := false, narrowed := true }
def FnExactIsPadicUptoSaid : Prop := fnExactIsPadicUptoRow.holds Try.pinned (OpenSpec.upto fnExactIsPadicSpec)

/-- 'laws.FnExactMakePadic', WHERE WHAT IT READS IS OF BULK AT MOST 1048576: true; the input reads as it did. -/
def fnExactMakePadicUptoRow : OpenClaim := { program := "ytdbiaiimdokleaa", sum := "b15be9a68977c4fcd8fa07223e16ec21bcfaf0d7bbf8a7436e9f47617cba6347", func := "loop.example/g01000/laws.FnExactMakePadic", spec := "fnExactMakePadic", apart := false, narrowed := true }
def FnExactMakePadicUptoSaid : Prop := fnExactMakePadicUptoRow.holds Try.pinned (OpenSpec.upto fnExactMakePadicSpec)

/-- 'laws.FnExactAddPadics', WHERE WHAT IT READS IS OF BULK AT MOST 1048576: true; the input reads as it did. -/
def fnExactAddPadicsUptoRow : OpenClaim := { program := "ytdbiaiimdokleaa", sum := "b15be9a68977c4fcd8fa07223e16ec21bcfaf0d7bbf8a7436e9f47617cba6347", func := "loop.example/g01000/laws.FnExactAddPadics", spec := "fnExactAddPadics", apart := false, narrowed := true }
def FnExactAddPadicsUptoSaid : Prop := fnExactAddPadicsUptoRow.holds Try.pinned (OpenSpec.upto fnExactAddPadicsSpec)

/-- 'laws.FnExactNegatePadic', WHERE WHAT IT READS IS OF BULK AT MOST 1048576: true; the input reads as it did. -/
def fnExactNegatePadicUptoRow : OpenClaim := { program := "ytdbiaiimdokleaa", sum := "b15be9a68977c4fcd8fa07223e16ec21bcfaf0d7bbf8a7436e9f47617cba6347", func := "loop.example/g01000/laws.FnExactNegatePadic", spec := "fnExactNegatePadic", apart := false, narrowed := true }
def FnExactNegatePadicUptoSaid : Prop := fnExactNegatePadicUptoRow.holds Try.pinned (OpenSpec.upto fnExactNegatePadicSpec)

/-- 'laws.FnExactMultiplyPadics', WHERE WHAT IT READS IS OF BULK AT MOST 1048576: true; the input reads as it did. -/
def fnExactMultiplyPadicsUptoRow : OpenClaim := { program := "ytdbiaiimdokleaa", sum := "b15be9a68977c4fcd8fa07223e16ec21bcfaf0d7bbf8a7436e9f47617cba6347", func := "loop.example/g01000/laws.FnExactMultiplyPadics", spec := "fnExactMultiplyPadics", apart := false, narrowed := true }
def FnExactMultiplyPadicsUptoSaid : Prop := fnExactMultiplyPadicsUptoRow.holds Try.pinned (OpenSpec.upto fnExactMultiplyPadicsSpec)

/-- 'laws.FnExactInvertPadic', WHERE WHAT IT READS IS OF BULK AT MOST 1048576: true; the input reads as it did. -/
def fnExactInvertPadicUptoRow : OpenClaim := { program := "ytdbiaiimdokleaa", sum := "b15be9a68977c4fcd8fa07223e16ec21bcfaf0d7bbf8a7436e9f47617cba6347", func := "loop.example/g01000/laws.FnExactInvertPadic", spec := "fnExactInvertPadic", apart := false, narrowed := true }
def FnExactInvertPadicUptoSaid : Prop := fnExactInvertPadicUptoRow.holds Try.pinned (OpenSpec.upto fnExactInvertPadicSpec)

/-- 'laws.FnExactCutPadic', WHERE WHAT IT READS IS OF BULK AT MOST 1048576: true; the input reads as it did. -/
def fnExactCutPadicUptoRow : OpenClaim := { program := "ytdbiaiimdokleaa", sum := "b15be9a68977c4fcd8fa07223e16ec21bcfaf0d7bbf8a7436e9f47617cba6347", func := "loop.example/g01000/laws.FnExactCutPadic", spec := "fnExactCutPadic", apart := false, narrowed := true }
def FnExactCutPadicUptoSaid : Prop := fnExactCutPadicUptoRow.holds Try.pinned (OpenSpec.upto fnExactCutPadicSpec)

/-- 'laws.FnExactAreEqualTo', WHERE WHAT IT READS IS OF BULK AT MOST 1048576: true; the input reads as it did. -/
def fnExactAreEqualToUptoRow : OpenClaim := { program := "ytdbiaiimdokleaa", sum := "b15be9a68977c4fcd8fa07223e16ec21bcfaf0d7bbf8a7436e9f47617cba6347", func := "loop.example/g01000/laws.FnExactAreEqualTo", spec := "fnExactAreEqualTo", apart := false, narrowed := true }
def FnExactAreEqualToUptoSaid : Prop := fnExactAreEqualToUptoRow.holds Try.pinned (OpenSpec.upto fnExactAreEqualToSpec)

/-- 'laws.FnExactEndOf', WHERE WHAT IT READS IS OF BULK AT MOST 1048576: true; the input reads as it did. -/
def fnExactEndOfUptoRow : OpenClaim := { program := "ytdbiaiimdokleaa", sum := "b15be9a68977c4fcd8fa07223e16ec21bcfaf0d7bbf8a7436e9f47617cba6347", func := "loop.example/g01000/laws.FnExactEndOf", spec := "fnExactEndOf", apart := false, narrowed := true }
def FnExactEndOfUptoSaid : Prop := fnExactEndOfUptoRow.holds Try.pinned (OpenSpec.upto fnExactEndOfSpec)

/-- 'laws.FnExactDigitAt', WHERE WHAT IT READS IS OF BULK AT MOST 1048576: true; the input reads as it did. -/
def fnExactDigitAtUptoRow : OpenClaim := { program := "ytdbiaiimdokleaa", sum := "b15be9a68977c4fcd8fa07223e16ec21bcfaf0d7bbf8a7436e9f47617cba6347", func := "loop.example/g01000/laws.FnExactDigitAt", spec := "fnExactDigitAt", apart := false, narrowed := true }
def FnExactDigitAtUptoSaid : Prop := fnExactDigitAtUptoRow.holds Try.pinned (OpenSpec.upto fnExactDigitAtSpec)

end Rows
end Go.Proofs.Ytdbiaiimdokleaa
