/-
  No cell of these rows narrows 'for every input' (looked for: loops, veiled, ifaces, maps, wideKeys, modest, calm, conditions, laid).
  DERIVED. THE GIVEN ROWS OF THIS SEAT. 11 by the template 'for every input the law returns true; each argument reads behind the call as it read before'; 0 by the template 'total and deterministic' (their statements: YtmggcoacaijnjaaTotals.lean).
  GIVEN WITH THE SEED: the statements are not yours to turn. If you find one false, say at which input.
  Laid BY PROGRAM, IN A SANDBOX (cutbox-rows.mjs): the forced cells as the released guide's own fill.sh prints them over the translation d27d08c909674711… (all of the seat's roots in one cut). By AI agents, Wed Nov 11 2026. No macro, syntax, notation, axiom, sorry.
-/
import Derived.Test.YtmggcoacaijnjaaChecked
import GoSem.Claim
import GoSem.ClaimJoined
import GoSem.ClaimMapViews
import Derived.JoinedTies
import Derived.KernelRfl
namespace Go.Proofs.Ytmggcoacaijnjaa
/- THE CELL 'sum', in the pinned program and in every row, IS THE sha256 OF THE DUMP (.gsa) THAT YtmggcoacaijnjaaProg.lean LOADS. Nothing in Lean hashes anything: it is a label: what it is worth is what the hold of that sum in a sandbox is worth. -/
noncomputable def Try.pinned : Pinned := { name := "ytmggcoacaijnjaa", sum := "d27d08c909674711717510ac7c4832f1856683ee261cc24fc8847816ffdb3bb6", checked := Try.checked }
namespace Rows
def none {H : Type} : Left H := { results := [], args := [] }

/-- 'laws.FnParts': WHATEVER THE INPUT: true; the input reads as it did. -/
def fnPartsSpec : ChangeSpec := { name := "fnParts", fn := fun _ => fun
  | [d] => { results := [.lit (.bool true)], args := [d] }
  | _ => none }
def fnPartsRow : OpenClaim := { program := "ytmggcoacaijnjaa", sum := "d27d08c909674711717510ac7c4832f1856683ee261cc24fc8847816ffdb3bb6", func := "loop.example/g01000/laws.FnParts", spec := "fnParts", apart := false }
def FnPartsSaid : Prop := fnPartsRow.holds Try.pinned (OpenSpec.ofChange fnPartsSpec)

/-- ITS FALSE NEIGHBOUR: 'it returns false'. Refute it at one input. -/
def fnPartsWrong : ChangeSpec := { name := "fnParts", fn := fun _ => fun
  | [d] => { results := [.lit (.bool false)], args := [d] }
  | _ => none }
def FnPartsWrongFalsely : Prop := fnPartsRow.holds Try.pinned (OpenSpec.ofChange fnPartsWrong)

/-- 'laws.FnRationals': WHATEVER THE INPUT: true; the input reads as it did. -/
def fnRationalsSpec : ChangeSpec := { name := "fnRationals", fn := fun _ => fun
  | [d] => { results := [.lit (.bool true)], args := [d] }
  | _ => none }
def fnRationalsRow : OpenClaim := { program := "ytmggcoacaijnjaa", sum := "d27d08c909674711717510ac7c4832f1856683ee261cc24fc8847816ffdb3bb6", func := "loop.example/g01000/laws.FnRationals", spec := "fnRationals", apart := false }
def FnRationalsSaid : Prop := fnRationalsRow.holds Try.pinned (OpenSpec.ofChange fnRationalsSpec)

/-- ITS FALSE NEIGHBOUR: 'it returns false'. Refute it at one input. -/
def fnRationalsWrong : ChangeSpec := { name := "fnRationals", fn := fun _ => fun
  | [d] => { results := [.lit (.bool false)], args := [d] }
  | _ => none }
def FnRationalsWrongFalsely : Prop := fnRationalsRow.holds Try.pinned (OpenSpec.ofChange fnRationalsWrong)

/-- 'laws.FnFound': WHATEVER THE INPUT: true; the input reads as it did. -/
def fnFoundSpec : ChangeSpec := { name := "fnFound", fn := fun _ => fun
  | [d] => { results := [.lit (.bool true)], args := [d] }
  | _ => none }
def fnFoundRow : OpenClaim := { program := "ytmggcoacaijnjaa", sum := "d27d08c909674711717510ac7c4832f1856683ee261cc24fc8847816ffdb3bb6", func := "loop.example/g01000/laws.FnFound", spec := "fnFound", unfollowed := true, recurses := true, apart := false }
def FnFoundSaid : Prop := fnFoundRow.holds Try.pinned (OpenSpec.ofChange fnFoundSpec)

/-- ITS FALSE NEIGHBOUR: 'it returns false'. Refute it at one input. -/
def fnFoundWrong : ChangeSpec := { name := "fnFound", fn := fun _ => fun
  | [d] => { results := [.lit (.bool false)], args := [d] }
  | _ => none }
def FnFoundWrongFalsely : Prop := fnFoundRow.holds Try.pinned (OpenSpec.ofChange fnFoundWrong)

/-- 'laws.FnExactIsRational': WHATEVER THE INPUT: true; the input reads as it did. -/
def fnExactIsRationalSpec : ChangeSpec := { name := "fnExactIsRational", fn := fun _ => fun
  | [d] => { results := [.lit (.bool true)], args := [d] }
  | _ => none }
def fnExactIsRationalRow : OpenClaim := { program := "ytmggcoacaijnjaa", sum := "d27d08c909674711717510ac7c4832f1856683ee261cc24fc8847816ffdb3bb6", func := "loop.example/g01000/laws.FnExactIsRational", spec := "fnExactIsRational", apart := false }
def FnExactIsRationalSaid : Prop := fnExactIsRationalRow.holds Try.pinned (OpenSpec.ofChange fnExactIsRationalSpec)

/-- ITS FALSE NEIGHBOUR: 'it returns false'. Refute it at one input. -/
def fnExactIsRationalWrong : ChangeSpec := { name := "fnExactIsRational", fn := fun _ => fun
  | [d] => { results := [.lit (.bool false)], args := [d] }
  | _ => none }
def FnExactIsRationalWrongFalsely : Prop := fnExactIsRationalRow.holds Try.pinned (OpenSpec.ofChange fnExactIsRationalWrong)

/-- 'laws.FnExactMakeRational': WHATEVER THE INPUT: true; the input reads as it did. -/
def fnExactMakeRationalSpec : ChangeSpec := { name := "fnExactMakeRational", fn := fun _ => fun
  | [d1, d2] => { results := [.lit (.bool true)], args := [d1, d2] }
  | _ => none }
def fnExactMakeRationalRow : OpenClaim := { program := "ytmggcoacaijnjaa", sum := "d27d08c909674711717510ac7c4832f1856683ee261cc24fc8847816ffdb3bb6", func := "loop.example/g01000/laws.FnExactMakeRational", spec := "fnExactMakeRational", apart := false }
def FnExactMakeRationalSaid : Prop := fnExactMakeRationalRow.holds Try.pinned (OpenSpec.ofChange fnExactMakeRationalSpec)

/-- ITS FALSE NEIGHBOUR: 'it returns false'. Refute it at one input. -/
def fnExactMakeRationalWrong : ChangeSpec := { name := "fnExactMakeRational", fn := fun _ => fun
  | [d1, d2] => { results := [.lit (.bool false)], args := [d1, d2] }
  | _ => none }
def FnExactMakeRationalWrongFalsely : Prop := fnExactMakeRationalRow.holds Try.pinned (OpenSpec.ofChange fnExactMakeRationalWrong)

/-- 'laws.FnExactAddRationals': WHATEVER THE INPUT: true; the input reads as it did. -/
def fnExactAddRationalsSpec : ChangeSpec := { name := "fnExactAddRationals", fn := fun _ => fun
  | [d1, d2] => { results := [.lit (.bool true)], args := [d1, d2] }
  | _ => none }
def fnExactAddRationalsRow : OpenClaim := { program := "ytmggcoacaijnjaa", sum := "d27d08c909674711717510ac7c4832f1856683ee261cc24fc8847816ffdb3bb6", func := "loop.example/g01000/laws.FnExactAddRationals", spec := "fnExactAddRationals", apart := false }
def FnExactAddRationalsSaid : Prop := fnExactAddRationalsRow.holds Try.pinned (OpenSpec.ofChange fnExactAddRationalsSpec)

/-- ITS FALSE NEIGHBOUR: 'it returns false'. Refute it at one input. -/
def fnExactAddRationalsWrong : ChangeSpec := { name := "fnExactAddRationals", fn := fun _ => fun
  | [d1, d2] => { results := [.lit (.bool false)], args := [d1, d2] }
  | _ => none }
def FnExactAddRationalsWrongFalsely : Prop := fnExactAddRationalsRow.holds Try.pinned (OpenSpec.ofChange fnExactAddRationalsWrong)

/-- 'laws.FnExactMultiplyRationals': WHATEVER THE INPUT: true; the input reads as it did. -/
def fnExactMultiplyRationalsSpec : ChangeSpec := { name := "fnExactMultiplyRationals", fn := fun _ => fun
  | [d1, d2] => { results := [.lit (.bool true)], args := [d1, d2] }
  | _ => none }
def fnExactMultiplyRationalsRow : OpenClaim := { program := "ytmggcoacaijnjaa", sum := "d27d08c909674711717510ac7c4832f1856683ee261cc24fc8847816ffdb3bb6", func := "loop.example/g01000/laws.FnExactMultiplyRationals", spec := "fnExactMultiplyRationals", apart := false }
def FnExactMultiplyRationalsSaid : Prop := fnExactMultiplyRationalsRow.holds Try.pinned (OpenSpec.ofChange fnExactMultiplyRationalsSpec)

/-- ITS FALSE NEIGHBOUR: 'it returns false'. Refute it at one input. -/
def fnExactMultiplyRationalsWrong : ChangeSpec := { name := "fnExactMultiplyRationals", fn := fun _ => fun
  | [d1, d2] => { results := [.lit (.bool false)], args := [d1, d2] }
  | _ => none }
def FnExactMultiplyRationalsWrongFalsely : Prop := fnExactMultiplyRationalsRow.holds Try.pinned (OpenSpec.ofChange fnExactMultiplyRationalsWrong)

/-- 'laws.FnExactRationalValuation': WHATEVER THE INPUT: true; the input reads as it did. -/
def fnExactRationalValuationSpec : ChangeSpec := { name := "fnExactRationalValuation", fn := fun _ => fun
  | [d1, d2] => { results := [.lit (.bool true)], args := [d1, d2] }
  | _ => none }
def fnExactRationalValuationRow : OpenClaim := { program := "ytmggcoacaijnjaa", sum := "d27d08c909674711717510ac7c4832f1856683ee261cc24fc8847816ffdb3bb6", func := "loop.example/g01000/laws.FnExactRationalValuation", spec := "fnExactRationalValuation", apart := false }
def FnExactRationalValuationSaid : Prop := fnExactRationalValuationRow.holds Try.pinned (OpenSpec.ofChange fnExactRationalValuationSpec)

/-- ITS FALSE NEIGHBOUR: 'it returns false'. Refute it at one input. -/
def fnExactRationalValuationWrong : ChangeSpec := { name := "fnExactRationalValuation", fn := fun _ => fun
  | [d1, d2] => { results := [.lit (.bool false)], args := [d1, d2] }
  | _ => none }
def FnExactRationalValuationWrongFalsely : Prop := fnExactRationalValuationRow.holds Try.pinned (OpenSpec.ofChange fnExactRationalValuationWrong)

/-- 'laws.FnExactPadicOf': WHATEVER THE INPUT: true; the input reads as it did. -/
def fnExactPadicOfSpec : ChangeSpec := { name := "fnExactPadicOf", fn := fun _ => fun
  | [d1, d2] => { results := [.lit (.bool true)], args := [d1, d2] }
  | _ => none }
def fnExactPadicOfRow : OpenClaim := { program := "ytmggcoacaijnjaa", sum := "d27d08c909674711717510ac7c4832f1856683ee261cc24fc8847816ffdb3bb6", func := "loop.example/g01000/laws.FnExactPadicOf", spec := "fnExactPadicOf", apart := false }
def FnExactPadicOfSaid : Prop := fnExactPadicOfRow.holds Try.pinned (OpenSpec.ofChange fnExactPadicOfSpec)

/-- ITS FALSE NEIGHBOUR: 'it returns false'. Refute it at one input. -/
def fnExactPadicOfWrong : ChangeSpec := { name := "fnExactPadicOf", fn := fun _ => fun
  | [d1, d2] => { results := [.lit (.bool false)], args := [d1, d2] }
  | _ => none }
def FnExactPadicOfWrongFalsely : Prop := fnExactPadicOfRow.holds Try.pinned (OpenSpec.ofChange fnExactPadicOfWrong)

/-- 'laws.FnExactDoAgree': WHATEVER THE INPUT: true; the input reads as it did. -/
def fnExactDoAgreeSpec : ChangeSpec := { name := "fnExactDoAgree", fn := fun _ => fun
  | [d1, d2] => { results := [.lit (.bool true)], args := [d1, d2] }
  | _ => none }
def fnExactDoAgreeRow : OpenClaim := { program := "ytmggcoacaijnjaa", sum := "d27d08c909674711717510ac7c4832f1856683ee261cc24fc8847816ffdb3bb6", func := "loop.example/g01000/laws.FnExactDoAgree", spec := "fnExactDoAgree", apart := false }
def FnExactDoAgreeSaid : Prop := fnExactDoAgreeRow.holds Try.pinned (OpenSpec.ofChange fnExactDoAgreeSpec)

/-- ITS FALSE NEIGHBOUR: 'it returns false'. Refute it at one input. -/
def fnExactDoAgreeWrong : ChangeSpec := { name := "fnExactDoAgree", fn := fun _ => fun
  | [d1, d2] => { results := [.lit (.bool false)], args := [d1, d2] }
  | _ => none }
def FnExactDoAgreeWrongFalsely : Prop := fnExactDoAgreeRow.holds Try.pinned (OpenSpec.ofChange fnExactDoAgreeWrong)

/-- 'laws.FnExactFindRational': WHATEVER THE INPUT: true; the input reads as it did. -/
def fnExactFindRationalSpec : ChangeSpec := { name := "fnExactFindRational", fn := fun _ => fun
  | [d] => { results := [.lit (.bool true)], args := [d] }
  | _ => none }
def fnExactFindRationalRow : OpenClaim := { program := "ytmggcoacaijnjaa", sum := "d27d08c909674711717510ac7c4832f1856683ee261cc24fc8847816ffdb3bb6", func := "loop.example/g01000/laws.FnExactFindRational", spec := "fnExactFindRational", unfollowed := true, recurses := true, apart := false }
def FnExactFindRationalSaid : Prop := fnExactFindRationalRow.holds Try.pinned (OpenSpec.ofChange fnExactFindRationalSpec)

/-- ITS FALSE NEIGHBOUR: 'it returns false'. Refute it at one input. -/
def fnExactFindRationalWrong : ChangeSpec := { name := "fnExactFindRational", fn := fun _ => fun
  | [d] => { results := [.lit (.bool false)], args := [d] }
  | _ => none }
def FnExactFindRationalWrongFalsely : Prop := fnExactFindRationalRow.holds Try.pinned (OpenSpec.ofChange fnExactFindRationalWrong)

/- THE SECOND FORM. 'bulk': how many values and letters a reading holds, each counted each time it is reached (what is shared counts as often as it is met; a slice's spare places count too). A statement '..UptoSaid' is the law's where the arguments, and the package variables that the reading takes, are together of bulk at most 1048576: NARROWER than '..Said'. Prove '..Said' where nothing that the law and all that it calls make is longer than what came in: it says more and counts as full. Else prove '..UptoSaid'. A law counts once. -/
mutual
def uptoBulk {H : Type} : DataW H → Nat
  | .lit (.string bytes) => bytes.length + 1
  | .lit _ => 1
  | .nil => 1
  | .ptr d => uptoBulk d + 1
  | .slice elems spare => uptoBulkAll elems + uptoBulkAll spare + 1
  | .agg parts => uptoBulkAll parts + 1
  | .iface _ d => uptoBulk d + 1
  | .map entries => uptoBulkEntries entries + 1
  | .held _ => 1
def uptoBulkAll {H : Type} : List (DataW H) → Nat
  | [] => 0
  | d :: r => uptoBulk d + uptoBulkAll r
def uptoBulkEntries {H : Type} : List (Lit × DataW H) → Nat
  | [] => 0
  | x :: r => uptoBulkEntry x + uptoBulkEntries r
def uptoBulkEntry {H : Type} : Lit × DataW H → Nat
  | (.string bytes, d) => bytes.length + uptoBulk d + 1
  | (_, d) => uptoBulk d + 1
 end
def uptoSmall : (H : Type) → List (DataW H) → Bool := fun _ ds => decide (uptoBulkAll ds ≤ 1048576)
def OpenSpec.upto (s : _root_.Go.ChangeSpec) : _root_.Go.OpenSpec := { _root_.Go.OpenSpec.ofChange s with cond := some uptoSmall }

/-- 'laws.FnParts', WHERE WHAT IT READS IS OF BULK AT MOST 1048576: true; the input reads as it did. -/
def fnPartsUptoRow : OpenClaim := { program := "ytmggcoacaijnjaa", sum := "d27d08c909674711717510ac7c4832f1856683ee261cc24fc8847816ffdb3bb6", func := "loop.example/g01000/laws.FnParts", spec := "fnParts", apart := false, narrowed := true }
def FnPartsUptoSaid : Prop := fnPartsUptoRow.holds Try.pinned (OpenSpec.upto fnPartsSpec)

/-- 'laws.FnRationals', WHERE WHAT IT READS IS OF BULK AT MOST 1048576: true; the input reads as it did. -/
def fnRationalsUptoRow : OpenClaim := { program := "ytmggcoacaijnjaa", sum := "d27d08c909674711717510ac7c4832f1856683ee261cc24fc8847816ffdb3bb6", func := "loop.example/g01000/laws.FnRationals", spec := "fnRationals", apart := false, narrowed := true }
def FnRationalsUptoSaid : Prop := fnRationalsUptoRow.holds Try.pinned (OpenSpec.upto fnRationalsSpec)

/-- 'laws.FnFound', WHERE WHAT IT READS IS OF BULK AT MOST 1048576: true; the input reads as it did. -/
def fnFoundUptoRow : OpenClaim := { program := "ytmggcoacaijnjaa", sum := "d27d08c909674711717510ac7c4832f1856683ee261cc24fc8847816ffdb3bb6", func := "loop.example/g01000/laws.FnFound", spec := "fnFound", unfollowed := true, recurses := true, apart := false, narrowed := true }
def FnFoundUptoSaid : Prop := fnFoundUptoRow.holds Try.pinned (OpenSpec.upto fnFoundSpec)

/-- 'laws.FnExactIsRational', WHERE WHAT IT READS IS OF BULK AT MOST 1048576: true; the input reads as it did. -/
def fnExactIsRationalUptoRow : OpenClaim := { program := "ytmggcoacaijnjaa", sum := "d27d08c909674711717510ac7c4832f1856683ee261cc24fc8847816ffdb3bb6", func := "loop.example/g01000/laws.FnExactIsRational", spec := "fnExactIsRational", apart := false, narrowed := true }
def FnExactIsRationalUptoSaid : Prop := fnExactIsRationalUptoRow.holds Try.pinned (OpenSpec.upto fnExactIsRationalSpec)

/-- 'laws.FnExactMakeRational', WHERE WHAT IT READS IS OF BULK AT MOST 1048576: true; the input reads as it did. -/
def fnExactMakeRationalUptoRow : OpenClaim := { program := "ytmggcoacaijnjaa", sum := "d27d08c909674711717510ac7c4832f1856683ee261cc24fc8847816ffdb3bb6", func := "loop.example/g01000/laws.FnExactMakeRational", spec := "fnExactMakeRational", apart := false, narrowed := true }
def FnExactMakeRationalUptoSaid : Prop := fnExactMakeRationalUptoRow.holds Try.pinned (OpenSpec.upto fnExactMakeRationalSpec)

/-- 'laws.FnExactAddRationals', WHERE WHAT IT READS IS OF BULK AT MOST 1048576: true; the input reads as it did. -/
def fnExactAddRationalsUptoRow : OpenClaim := { program := "ytmggcoacaijnjaa", sum := "d27d08c909674711717510ac7c4832f1856683ee261cc24fc8847816ffdb3bb6", func := "loop.example/g01000/laws.FnExactAddRationals", spec := "fnExactAddRationals", apart := false, narrowed := true }
def FnExactAddRationalsUptoSaid : Prop := fnExactAddRationalsUptoRow.holds Try.pinned (OpenSpec.upto fnExactAddRationalsSpec)

/-- 'laws.FnExactMultiplyRationals', WHERE WHAT IT READS IS OF BULK AT MOST 1048576: true; the input reads as it did. -/
def fnExactMultiplyRationalsUptoRow : OpenClaim := { program := "ytmggcoacaijnjaa", sum := "d27d08c909674711717510ac7c4832f1856683ee261cc24fc8847816ffdb3bb6", func := "loop.example/g01000/laws.FnExactMultiplyRationals", spec := "fnExactMultiplyRationals", apart := false, narrowed := true }
def FnExactMultiplyRationalsUptoSaid : Prop := fnExactMultiplyRationalsUptoRow.holds Try.pinned (OpenSpec.upto fnExactMultiplyRationalsSpec)

/-- 'laws.FnExactRationalValuation', WHERE WHAT IT READS IS OF BULK AT MOST 1048576: true; the input reads as it did. -/
def fnExactRationalValuationUptoRow : OpenClaim := { program := "ytmggcoacaijnjaa", sum := "d27d08c909674711717510ac7c4832f1856683ee261cc24fc8847816ffdb3bb6", func := "loop.example/g01000/laws.FnExactRationalValuation", spec := "fnExactRationalValuation", apart := false, narrowed := true }
def FnExactRationalValuationUptoSaid : Prop := fnExactRationalValuationUptoRow.holds Try.pinned (OpenSpec.upto fnExactRationalValuationSpec)

/-- 'laws.FnExactPadicOf', WHERE WHAT IT READS IS OF BULK AT MOST 1048576: true; the input reads as it did. -/
def fnExactPadicOfUptoRow : OpenClaim := { program := "ytmggcoacaijnjaa", sum := "d27d08c909674711717510ac7c4832f1856683ee261cc24fc8847816ffdb3bb6", func := "loop.example/g01000/laws.FnExactPadicOf", spec := "fnExactPadicOf", apart := false, narrowed := true }
def FnExactPadicOfUptoSaid : Prop := fnExactPadicOfUptoRow.holds Try.pinned (OpenSpec.upto fnExactPadicOfSpec)

/-- 'laws.FnExactDoAgree', WHERE WHAT IT READS IS OF BULK AT MOST 1048576: true; the input reads as it did. -/
def fnExactDoAgreeUptoRow : OpenClaim := { program := "ytmggcoacaijnjaa", sum := "d27d08c909674711717510ac7c4832f1856683ee261cc24fc8847816ffdb3bb6", func := "loop.example/g01000/laws.FnExactDoAgree", spec := "fnExactDoAgree", apart := false, narrowed := true }
def FnExactDoAgreeUptoSaid : Prop := fnExactDoAgreeUptoRow.holds Try.pinned (OpenSpec.upto fnExactDoAgreeSpec)

/-- 'laws.FnExactFindRational', WHERE WHAT IT READS IS OF BULK AT MOST 1048576: true; the input reads as it did. -/
def fnExactFindRationalUptoRow : OpenClaim := { program := "ytmggcoacaijnjaa", sum := "d27d08c909674711717510ac7c4832f1856683ee261cc24fc8847816ffdb3bb6", func := "loop.example/g01000/laws.FnExactFindRational", spec := "fnExactFindRational", unfollowed := true, recurses := true, apart := false, narrowed := true }
def FnExactFindRationalUptoSaid : Prop := fnExactFindRationalUptoRow.holds Try.pinned (OpenSpec.upto fnExactFindRationalSpec)

end Rows
end Go.Proofs.Ytmggcoacaijnjaa
