/-
  No cell of these rows narrows 'for every input' (looked for: loops, veiled, ifaces, maps, wideKeys, modest, calm, conditions, laid).
  DERIVED. THE GIVEN ROWS OF THIS SEAT. 10 by the template 'for every input the law returns true; each argument reads behind the call as it read before'; 0 by the template 'total and deterministic' (their statements: YtckpeoadglkbgaaTotals.lean).
  GIVEN WITH THE SEED: the statements are not yours to turn. If you find one false, say at which input.
  Laid BY PROGRAM, IN A SANDBOX (cutbox-rows.mjs): the forced cells as the released guide's own fill.sh prints them over the translation 7b55aa5a9fd531df… (all of the seat's roots in one cut). By AI agents, Wed Nov 11 2026. No macro, syntax, notation, axiom, sorry.
-/
import Derived.Test.YtckpeoadglkbgaaChecked
import GoSem.Claim
import GoSem.ClaimJoined
import GoSem.ClaimMapViews
import Derived.JoinedTies
import Derived.KernelRfl
namespace Go.Proofs.Ytckpeoadglkbgaa
/- THE CELL 'sum', in the pinned program and in every row, IS THE sha256 OF THE DUMP (.gsa) THAT YtckpeoadglkbgaaProg.lean LOADS. Nothing in Lean hashes anything: it is a label: what it is worth is what the hold of that sum in a sandbox is worth. -/
noncomputable def Try.pinned : Pinned := { name := "ytckpeoadglkbgaa", sum := "7b55aa5a9fd531df2c23332a3f4ab9207ccdc4d8ef06970ee945fe362ab362a9", checked := Try.checked }
namespace Rows
def none {H : Type} : Left H := { results := [], args := [] }

/-- 'laws.FnLifts': WHATEVER THE INPUT: true; the input reads as it did. -/
def fnLiftsSpec : ChangeSpec := { name := "fnLifts", fn := fun _ => fun
  | [d] => { results := [.lit (.bool true)], args := [d] }
  | _ => none }
def fnLiftsRow : OpenClaim := { program := "ytckpeoadglkbgaa", sum := "7b55aa5a9fd531df2c23332a3f4ab9207ccdc4d8ef06970ee945fe362ab362a9", func := "loop.example/g01000/laws.FnLifts", spec := "fnLifts", unfollowed := true, recurses := true, apart := false }
def FnLiftsSaid : Prop := fnLiftsRow.holds Try.pinned (OpenSpec.ofChange fnLiftsSpec)

/-- ITS FALSE NEIGHBOUR: 'it returns false'. Refute it at one input. -/
def fnLiftsWrong : ChangeSpec := { name := "fnLifts", fn := fun _ => fun
  | [d] => { results := [.lit (.bool false)], args := [d] }
  | _ => none }
def FnLiftsWrongFalsely : Prop := fnLiftsRow.holds Try.pinned (OpenSpec.ofChange fnLiftsWrong)

/-- 'laws.FnRingRoots': WHATEVER THE INPUT: true; the input reads as it did. -/
def fnRingRootsSpec : ChangeSpec := { name := "fnRingRoots", fn := fun _ => fun
  | [d] => { results := [.lit (.bool true)], args := [d] }
  | _ => none }
def fnRingRootsRow : OpenClaim := { program := "ytckpeoadglkbgaa", sum := "7b55aa5a9fd531df2c23332a3f4ab9207ccdc4d8ef06970ee945fe362ab362a9", func := "loop.example/g01000/laws.FnRingRoots", spec := "fnRingRoots", unfollowed := true, recurses := true, apart := false }
def FnRingRootsSaid : Prop := fnRingRootsRow.holds Try.pinned (OpenSpec.ofChange fnRingRootsSpec)

/-- ITS FALSE NEIGHBOUR: 'it returns false'. Refute it at one input. -/
def fnRingRootsWrong : ChangeSpec := { name := "fnRingRoots", fn := fun _ => fun
  | [d] => { results := [.lit (.bool false)], args := [d] }
  | _ => none }
def FnRingRootsWrongFalsely : Prop := fnRingRootsRow.holds Try.pinned (OpenSpec.ofChange fnRingRootsWrong)

/-- 'laws.FnExactValueInRing': WHATEVER THE INPUT: true; the input reads as it did. -/
def fnExactValueInRingSpec : ChangeSpec := { name := "fnExactValueInRing", fn := fun _ => fun
  | [d1, d2, d3] => { results := [.lit (.bool true)], args := [d1, d2, d3] }
  | _ => none }
def fnExactValueInRingRow : OpenClaim := { program := "ytckpeoadglkbgaa", sum := "7b55aa5a9fd531df2c23332a3f4ab9207ccdc4d8ef06970ee945fe362ab362a9", func := "loop.example/g01000/laws.FnExactValueInRing", spec := "fnExactValueInRing", unfollowed := true, recurses := true, apart := false }
def FnExactValueInRingSaid : Prop := fnExactValueInRingRow.holds Try.pinned (OpenSpec.ofChange fnExactValueInRingSpec)

/-- ITS FALSE NEIGHBOUR: 'it returns false'. Refute it at one input. -/
def fnExactValueInRingWrong : ChangeSpec := { name := "fnExactValueInRing", fn := fun _ => fun
  | [d1, d2, d3] => { results := [.lit (.bool false)], args := [d1, d2, d3] }
  | _ => none }
def FnExactValueInRingWrongFalsely : Prop := fnExactValueInRingRow.holds Try.pinned (OpenSpec.ofChange fnExactValueInRingWrong)

/-- 'laws.FnExactNewtonStep': WHATEVER THE INPUT: true; the input reads as it did. -/
def fnExactNewtonStepSpec : ChangeSpec := { name := "fnExactNewtonStep", fn := fun _ => fun
  | [d1, d2, d3] => { results := [.lit (.bool true)], args := [d1, d2, d3] }
  | _ => none }
def fnExactNewtonStepRow : OpenClaim := { program := "ytckpeoadglkbgaa", sum := "7b55aa5a9fd531df2c23332a3f4ab9207ccdc4d8ef06970ee945fe362ab362a9", func := "loop.example/g01000/laws.FnExactNewtonStep", spec := "fnExactNewtonStep", unfollowed := true, recurses := true, apart := false }
def FnExactNewtonStepSaid : Prop := fnExactNewtonStepRow.holds Try.pinned (OpenSpec.ofChange fnExactNewtonStepSpec)

/-- ITS FALSE NEIGHBOUR: 'it returns false'. Refute it at one input. -/
def fnExactNewtonStepWrong : ChangeSpec := { name := "fnExactNewtonStep", fn := fun _ => fun
  | [d1, d2, d3] => { results := [.lit (.bool false)], args := [d1, d2, d3] }
  | _ => none }
def FnExactNewtonStepWrongFalsely : Prop := fnExactNewtonStepRow.holds Try.pinned (OpenSpec.ofChange fnExactNewtonStepWrong)

/-- 'laws.FnExactLiftRoot': WHATEVER THE INPUT: true; the input reads as it did. -/
def fnExactLiftRootSpec : ChangeSpec := { name := "fnExactLiftRoot", fn := fun _ => fun
  | [d1, d2, d3] => { results := [.lit (.bool true)], args := [d1, d2, d3] }
  | _ => none }
def fnExactLiftRootRow : OpenClaim := { program := "ytckpeoadglkbgaa", sum := "7b55aa5a9fd531df2c23332a3f4ab9207ccdc4d8ef06970ee945fe362ab362a9", func := "loop.example/g01000/laws.FnExactLiftRoot", spec := "fnExactLiftRoot", unfollowed := true, recurses := true, apart := false }
def FnExactLiftRootSaid : Prop := fnExactLiftRootRow.holds Try.pinned (OpenSpec.ofChange fnExactLiftRootSpec)

/-- ITS FALSE NEIGHBOUR: 'it returns false'. Refute it at one input. -/
def fnExactLiftRootWrong : ChangeSpec := { name := "fnExactLiftRoot", fn := fun _ => fun
  | [d1, d2, d3] => { results := [.lit (.bool false)], args := [d1, d2, d3] }
  | _ => none }
def FnExactLiftRootWrongFalsely : Prop := fnExactLiftRootRow.holds Try.pinned (OpenSpec.ofChange fnExactLiftRootWrong)

/-- 'laws.FnExactSimpleRoots': WHATEVER THE INPUT: true; the input reads as it did. -/
def fnExactSimpleRootsSpec : ChangeSpec := { name := "fnExactSimpleRoots", fn := fun _ => fun
  | [d1, d2] => { results := [.lit (.bool true)], args := [d1, d2] }
  | _ => none }
def fnExactSimpleRootsRow : OpenClaim := { program := "ytckpeoadglkbgaa", sum := "7b55aa5a9fd531df2c23332a3f4ab9207ccdc4d8ef06970ee945fe362ab362a9", func := "loop.example/g01000/laws.FnExactSimpleRoots", spec := "fnExactSimpleRoots", unfollowed := true, recurses := true, apart := false }
def FnExactSimpleRootsSaid : Prop := fnExactSimpleRootsRow.holds Try.pinned (OpenSpec.ofChange fnExactSimpleRootsSpec)

/-- ITS FALSE NEIGHBOUR: 'it returns false'. Refute it at one input. -/
def fnExactSimpleRootsWrong : ChangeSpec := { name := "fnExactSimpleRoots", fn := fun _ => fun
  | [d1, d2] => { results := [.lit (.bool false)], args := [d1, d2] }
  | _ => none }
def FnExactSimpleRootsWrongFalsely : Prop := fnExactSimpleRootsRow.holds Try.pinned (OpenSpec.ofChange fnExactSimpleRootsWrong)

/-- 'laws.FnExactRootsInRing': WHATEVER THE INPUT: true; the input reads as it did. -/
def fnExactRootsInRingSpec : ChangeSpec := { name := "fnExactRootsInRing", fn := fun _ => fun
  | [d1, d2] => { results := [.lit (.bool true)], args := [d1, d2] }
  | _ => none }
def fnExactRootsInRingRow : OpenClaim := { program := "ytckpeoadglkbgaa", sum := "7b55aa5a9fd531df2c23332a3f4ab9207ccdc4d8ef06970ee945fe362ab362a9", func := "loop.example/g01000/laws.FnExactRootsInRing", spec := "fnExactRootsInRing", unfollowed := true, recurses := true, apart := false }
def FnExactRootsInRingSaid : Prop := fnExactRootsInRingRow.holds Try.pinned (OpenSpec.ofChange fnExactRootsInRingSpec)

/-- ITS FALSE NEIGHBOUR: 'it returns false'. Refute it at one input. -/
def fnExactRootsInRingWrong : ChangeSpec := { name := "fnExactRootsInRing", fn := fun _ => fun
  | [d1, d2] => { results := [.lit (.bool false)], args := [d1, d2] }
  | _ => none }
def FnExactRootsInRingWrongFalsely : Prop := fnExactRootsInRingRow.holds Try.pinned (OpenSpec.ofChange fnExactRootsInRingWrong)

/-- 'laws.FnExactCountRootsInRing': WHATEVER THE INPUT: true; the input reads as it did. -/
def fnExactCountRootsInRingSpec : ChangeSpec := { name := "fnExactCountRootsInRing", fn := fun _ => fun
  | [d1, d2] => { results := [.lit (.bool true)], args := [d1, d2] }
  | _ => none }
def fnExactCountRootsInRingRow : OpenClaim := { program := "ytckpeoadglkbgaa", sum := "7b55aa5a9fd531df2c23332a3f4ab9207ccdc4d8ef06970ee945fe362ab362a9", func := "loop.example/g01000/laws.FnExactCountRootsInRing", spec := "fnExactCountRootsInRing", unfollowed := true, recurses := true, apart := false }
def FnExactCountRootsInRingSaid : Prop := fnExactCountRootsInRingRow.holds Try.pinned (OpenSpec.ofChange fnExactCountRootsInRingSpec)

/-- ITS FALSE NEIGHBOUR: 'it returns false'. Refute it at one input. -/
def fnExactCountRootsInRingWrong : ChangeSpec := { name := "fnExactCountRootsInRing", fn := fun _ => fun
  | [d1, d2] => { results := [.lit (.bool false)], args := [d1, d2] }
  | _ => none }
def FnExactCountRootsInRingWrongFalsely : Prop := fnExactCountRootsInRingRow.holds Try.pinned (OpenSpec.ofChange fnExactCountRootsInRingWrong)

/-- 'laws.FnExactSquareRootsOf': WHATEVER THE INPUT: true; the input reads as it did. -/
def fnExactSquareRootsOfSpec : ChangeSpec := { name := "fnExactSquareRootsOf", fn := fun _ => fun
  | [d1, d2] => { results := [.lit (.bool true)], args := [d1, d2] }
  | _ => none }
def fnExactSquareRootsOfRow : OpenClaim := { program := "ytckpeoadglkbgaa", sum := "7b55aa5a9fd531df2c23332a3f4ab9207ccdc4d8ef06970ee945fe362ab362a9", func := "loop.example/g01000/laws.FnExactSquareRootsOf", spec := "fnExactSquareRootsOf", unfollowed := true, recurses := true, apart := false }
def FnExactSquareRootsOfSaid : Prop := fnExactSquareRootsOfRow.holds Try.pinned (OpenSpec.ofChange fnExactSquareRootsOfSpec)

/-- ITS FALSE NEIGHBOUR: 'it returns false'. Refute it at one input. -/
def fnExactSquareRootsOfWrong : ChangeSpec := { name := "fnExactSquareRootsOf", fn := fun _ => fun
  | [d1, d2] => { results := [.lit (.bool false)], args := [d1, d2] }
  | _ => none }
def FnExactSquareRootsOfWrongFalsely : Prop := fnExactSquareRootsOfRow.holds Try.pinned (OpenSpec.ofChange fnExactSquareRootsOfWrong)

/-- 'laws.FnExactStableRoot': WHATEVER THE INPUT: true; the input reads as it did. -/
def fnExactStableRootSpec : ChangeSpec := { name := "fnExactStableRoot", fn := fun _ => fun
  | [d1, d2, d3] => { results := [.lit (.bool true)], args := [d1, d2, d3] }
  | _ => none }
def fnExactStableRootRow : OpenClaim := { program := "ytckpeoadglkbgaa", sum := "7b55aa5a9fd531df2c23332a3f4ab9207ccdc4d8ef06970ee945fe362ab362a9", func := "loop.example/g01000/laws.FnExactStableRoot", spec := "fnExactStableRoot", unfollowed := true, recurses := true, apart := false }
def FnExactStableRootSaid : Prop := fnExactStableRootRow.holds Try.pinned (OpenSpec.ofChange fnExactStableRootSpec)

/-- ITS FALSE NEIGHBOUR: 'it returns false'. Refute it at one input. -/
def fnExactStableRootWrong : ChangeSpec := { name := "fnExactStableRoot", fn := fun _ => fun
  | [d1, d2, d3] => { results := [.lit (.bool false)], args := [d1, d2, d3] }
  | _ => none }
def FnExactStableRootWrongFalsely : Prop := fnExactStableRootRow.holds Try.pinned (OpenSpec.ofChange fnExactStableRootWrong)

/- THE SECOND FORM. 'bulk': how many values and letters a reading holds, each counted each time it is reached (what is shared counts as often as it is met; a slice's spare places count too). A statement '..UptoSaid' is the law's where the arguments, and the package variables that the reading takes, are together of bulk at most 1048576: NARROWER than '..Said'. Prove '..Said' where nothing that the law and all that it calls make is longer than what came in: it says more and counts as full. Else prove '..UptoSaid'. A law counts once. -/
mutual
def uptoBulk {H : Type} : DataW H → Nat
  | .lit (.string bytes) => bytes.length + 1
  | .lit _ => 1
  | .nil => 1
  | .ptr d => uptoBulk d + 1
  | .slice elems spare => uptoBulkAll elems + uptoBulkAll spare + 1
  | .agg parts => uptoBulkAll parts + 1
  | .iface _ d => uptoBulk d + 1
  | .map entries => uptoBulkEntries entries + 1
  | .held _ => 1
def uptoBulkAll {H : Type} : List (DataW H) → Nat
  | [] => 0
  | d :: r => uptoBulk d + uptoBulkAll r
def uptoBulkEntries {H : Type} : List (Lit × DataW H) → Nat
  | [] => 0
  | x :: r => uptoBulkEntry x + uptoBulkEntries r
def uptoBulkEntry {H : Type} : Lit × DataW H → Nat
  | (.string bytes, d) => bytes.length + uptoBulk d + 1
  | (_, d) => uptoBulk d + 1
 end
def uptoSmall : (H : Type) → List (DataW H) → Bool := fun _ ds => decide (uptoBulkAll ds ≤ 1048576)
def OpenSpec.upto (s : _root_.Go.ChangeSpec) : _root_.Go.OpenSpec := { _root_.Go.OpenSpec.ofChange s with cond := some uptoSmall }

/-- 'laws.FnLifts', WHERE WHAT IT READS IS OF BULK AT MOST 1048576: true; the input reads as it did. -/
def fnLiftsUptoRow : OpenClaim := { program := "ytckpeoadglkbgaa", sum := "7b55aa5a9fd531df2c23332a3f4ab9207ccdc4d8ef06970ee945fe362ab362a9", func := "loop.example/g01000/laws.FnLifts", spec := "fnLifts", unfollowed := true, recurses := true, apart := false, narrowed := true }
def FnLiftsUptoSaid : Prop := fnLiftsUptoRow.holds Try.pinned (OpenSpec.upto fnLiftsSpec)

/-- 'laws.FnRingRoots', WHERE WHAT IT READS IS OF BULK AT MOST 1048576: true; the input reads as it did. -/
def fnRingRootsUptoRow : OpenClaim := { program := "ytckpeoadglkbgaa", sum := "7b55aa5a9fd531df2c23332a3f4ab9207ccdc4d8ef06970ee945fe362ab362a9", func := "loop.example/g01000/laws.FnRingRoots", spec := "fnRingRoots", unfollowed := true, recurses := true, apart := false, narrowed := true }
def FnRingRootsUptoSaid : Prop := fnRingRootsUptoRow.holds Try.pinned (OpenSpec.upto fnRingRootsSpec)

/-- 'laws.FnExactValueInRing', WHERE WHAT IT READS IS OF BULK AT MOST 1048576: true; the input reads as it did. -/
def fnExactValueInRingUptoRow : OpenClaim := { program := "ytckpeoadglkbgaa", sum := "7b55aa5a9fd531df2c23332a3f4ab9207ccdc4d8ef06970ee945fe362ab362a9", func := "loop.example/g01000/laws.FnExactValueInRing", spec := "fnExactValueInRing", unfollowed := true, recurses := true, apart := false, narrowed := true }
def FnExactValueInRingUptoSaid : Prop := fnExactValueInRingUptoRow.holds Try.pinned (OpenSpec.upto fnExactValueInRingSpec)

/-- 'laws.FnExactNewtonStep', WHERE WHAT IT READS IS OF BULK AT MOST 1048576: true; the input reads as it did. -/
def fnExactNewtonStepUptoRow : OpenClaim := { program := "ytckpeoadglkbgaa", sum := "7b55aa5a9fd531df2c23332a3f4ab9207ccdc4d8ef06970ee945fe362ab362a9", func := "loop.example/g01000/laws.FnExactNewtonStep", spec := "fnExactNewtonStep", unfollowed := true, recurses := true, apart := false, narrowed := true }
def FnExactNewtonStepUptoSaid : Prop := fnExactNewtonStepUptoRow.holds Try.pinned (OpenSpec.upto fnExactNewtonStepSpec)

/-- 'laws.FnExactLiftRoot', WHERE WHAT IT READS IS OF BULK AT MOST 1048576: true; the input reads as it did. -/
def fnExactLiftRootUptoRow : OpenClaim := { program := "ytckpeoadglkbgaa", sum := "7b55aa5a9fd531df2c23332a3f4ab9207ccdc4d8ef06970ee945fe362ab362a9", func := "loop.example/g01000/laws.FnExactLiftRoot", spec := "fnExactLiftRoot", unfollowed := true, recurses := true, apart := false, narrowed := true }
def FnExactLiftRootUptoSaid : Prop := fnExactLiftRootUptoRow.holds Try.pinned (OpenSpec.upto fnExactLiftRootSpec)

/-- 'laws.FnExactSimpleRoots', WHERE WHAT IT READS IS OF BULK AT MOST 1048576: true; the input reads as it did. -/
def fnExactSimpleRootsUptoRow : OpenClaim := { program := "ytckpeoadglkbgaa", sum := "7b55aa5a9fd531df2c23332a3f4ab9207ccdc4d8ef06970ee945fe362ab362a9", func := "loop.example/g01000/laws.FnExactSimpleRoots", spec := "fnExactSimpleRoots", unfollowed := true, recurses := true, apart := false, narrowed := true }
def FnExactSimpleRootsUptoSaid : Prop := fnExactSimpleRootsUptoRow.holds Try.pinned (OpenSpec.upto fnExactSimpleRootsSpec)

/-- 'laws.FnExactRootsInRing', WHERE WHAT IT READS IS OF BULK AT MOST 1048576: true; the input reads as it did. -/
def fnExactRootsInRingUptoRow : OpenClaim := { program := "ytckpeoadglkbgaa", sum := "7b55aa5a9fd531df2c23332a3f4ab9207ccdc4d8ef06970ee945fe362ab362a9", func := "loop.example/g01000/laws.FnExactRootsInRing", spec := "fnExactRootsInRing", unfollowed := true, recurses := true, apart := false, narrowed := true }
def FnExactRootsInRingUptoSaid : Prop := fnExactRootsInRingUptoRow.holds Try.pinned (OpenSpec.upto fnExactRootsInRingSpec)

/-- 'laws.FnExactCountRootsInRing', WHERE WHAT IT READS IS OF BULK AT MOST 1048576: true; the input reads as it did. -/
def fnExactCountRootsInRingUptoRow : OpenClaim := { program := "ytckpeoadglkbgaa", sum := "7b55aa5a9fd531df2c23332a3f4ab9207ccdc4d8ef06970ee945fe362ab362a9", func := "loop.example/g01000/laws.FnExactCountRootsInRing", spec := "fnExactCountRootsInRing", unfollowed := true, recurses := true, apart := false, narrowed := true }
def FnExactCountRootsInRingUptoSaid : Prop := fnExactCountRootsInRingUptoRow.holds Try.pinned (OpenSpec.upto fnExactCountRootsInRingSpec)

/-- 'laws.FnExactSquareRootsOf', WHERE WHAT IT READS IS OF BULK AT MOST 1048576: true; the input reads as it did. -/
def fnExactSquareRootsOfUptoRow : OpenClaim := { program := "ytckpeoadglkbgaa", sum := "7b55aa5a9fd531df2c23332a3f4ab9207ccdc4d8ef06970ee945fe362ab362a9", func := "loop.example/g01000/laws.FnExactSquareRootsOf", spec := "fnExactSquareRootsOf", unfollowed := true, recurses := true, apart := false, narrowed := true }
def FnExactSquareRootsOfUptoSaid : Prop := fnExactSquareRootsOfUptoRow.holds Try.pinned (OpenSpec.upto fnExactSquareRootsOfSpec)

/-- 'laws.FnExactStableRoot', WHERE WHAT IT READS IS OF BULK AT MOST 1048576: true; the input reads as it did. -/
def fnExactStableRootUptoRow : OpenClaim := { program := "ytckpeoadglkbgaa", sum := "7b55aa5a9fd531df2c23332a3f4ab9207ccdc4d8ef06970ee945fe362ab362a9", func := "loop.example/g01000/laws.FnExactStableRoot", spec := "fnExactStableRoot", unfollowed := true, recurses := true, apart := false, narrowed := true }
def FnExactStableRootUptoSaid : Prop := fnExactStableRootUptoRow.holds Try.pinned (OpenSpec.upto fnExactStableRootSpec)

end Rows
end Go.Proofs.Ytckpeoadglkbgaa
