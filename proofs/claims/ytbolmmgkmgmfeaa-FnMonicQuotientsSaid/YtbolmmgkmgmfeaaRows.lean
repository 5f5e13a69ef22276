/-
  No cell of these rows narrows 'for every input' (looked for: loops, veiled, ifaces, maps, wideKeys, modest, calm, conditions, laid).
  DERIVED. THE GIVEN ROWS OF THIS SEAT. 7 by the template 'for every input the law returns true; each argument reads behind the call as it read before'; 0 by the template 'total and deterministic' (their statements: YtbolmmgkmgmfeaaTotals.lean).
  GIVEN WITH THE SEED: the statements are not yours to turn. If you find one false, say at which input.
  Laid BY PROGRAM, IN A SANDBOX (cutbox-rows.mjs): the forced cells as the released guide's own fill.sh prints them over the translation 89605f3acd668812… (all of the seat's roots in one cut). By AI agents, Wed Nov 11 2026. No macro, syntax, notation, axiom, sorry.
-/
import Derived.Test.YtbolmmgkmgmfeaaChecked
import GoSem.Claim
import GoSem.ClaimJoined
import GoSem.ClaimMapViews
import Derived.JoinedTies
import Derived.KernelRfl
namespace Go.Proofs.Ytbolmmgkmgmfeaa
/- THE CELL 'sum', in the pinned program and in every row, IS THE sha256 OF THE DUMP (.gsa) THAT YtbolmmgkmgmfeaaProg.lean LOADS. Nothing in Lean hashes anything: it is a label: what it is worth is what the hold of that sum in a sandbox is worth. -/
noncomputable def Try.pinned : Pinned := { name := "ytbolmmgkmgmfeaa", sum := "89605f3acd668812e945a4d9e77d2e687722e0b8d1b5eafcc25368087c5320e4", checked := Try.checked }
namespace Rows
def none {H : Type} : Left H := { results := [], args := [] }

/-- 'laws.FnRootsOfPrimes': WHATEVER THE INPUT: true; the input reads as it did. -/
def fnRootsOfPrimesSpec : ChangeSpec := { name := "fnRootsOfPrimes", fn := fun _ => fun
  | [d] => { results := [.lit (.bool true)], args := [d] }
  | _ => none }
def fnRootsOfPrimesRow : OpenClaim := { program := "ytbolmmgkmgmfeaa", sum := "89605f3acd668812e945a4d9e77d2e687722e0b8d1b5eafcc25368087c5320e4", func := "loop.example/g01000/laws.FnRootsOfPrimes", spec := "fnRootsOfPrimes", apart := false }
def FnRootsOfPrimesSaid : Prop := fnRootsOfPrimesRow.holds Try.pinned (OpenSpec.ofChange fnRootsOfPrimesSpec)

/-- ITS FALSE NEIGHBOUR: 'it returns false'. Refute it at one input. -/
def fnRootsOfPrimesWrong : ChangeSpec := { name := "fnRootsOfPrimes", fn := fun _ => fun
  | [d] => { results := [.lit (.bool false)], args := [d] }
  | _ => none }
def FnRootsOfPrimesWrongFalsely : Prop := fnRootsOfPrimesRow.holds Try.pinned (OpenSpec.ofChange fnRootsOfPrimesWrong)

/-- 'laws.FnExactPrimitiveRoot': WHATEVER THE INPUT: true; the input reads as it did. -/
def fnExactPrimitiveRootSpec : ChangeSpec := { name := "fnExactPrimitiveRoot", fn := fun _ => fun
  | [d] => { results := [.lit (.bool true)], args := [d] }
  | _ => none }
def fnExactPrimitiveRootRow : OpenClaim := { program := "ytbolmmgkmgmfeaa", sum := "89605f3acd668812e945a4d9e77d2e687722e0b8d1b5eafcc25368087c5320e4", func := "loop.example/g01000/laws.FnExactPrimitiveRoot", spec := "fnExactPrimitiveRoot", apart := false }
def FnExactPrimitiveRootSaid : Prop := fnExactPrimitiveRootRow.holds Try.pinned (OpenSpec.ofChange fnExactPrimitiveRootSpec)

/-- ITS FALSE NEIGHBOUR: 'it returns false'. Refute it at one input. -/
def fnExactPrimitiveRootWrong : ChangeSpec := { name := "fnExactPrimitiveRoot", fn := fun _ => fun
  | [d] => { results := [.lit (.bool false)], args := [d] }
  | _ => none }
def FnExactPrimitiveRootWrongFalsely : Prop := fnExactPrimitiveRootRow.holds Try.pinned (OpenSpec.ofChange fnExactPrimitiveRootWrong)

/-- 'laws.FnMonicQuotients': WHATEVER THE INPUT: true; the input reads as it did. -/
def fnMonicQuotientsSpec : ChangeSpec := { name := "fnMonicQuotients", fn := fun _ => fun
  | [d] => { results := [.lit (.bool true)], args := [d] }
  | _ => none }
def fnMonicQuotientsRow : OpenClaim := { program := "ytbolmmgkmgmfeaa", sum := "89605f3acd668812e945a4d9e77d2e687722e0b8d1b5eafcc25368087c5320e4", func := "loop.example/g01000/laws.FnMonicQuotients", spec := "fnMonicQuotients", apart := false }
def FnMonicQuotientsSaid : Prop := fnMonicQuotientsRow.holds Try.pinned (OpenSpec.ofChange fnMonicQuotientsSpec)

/-- ITS FALSE NEIGHBOUR: 'it returns false'. Refute it at one input. -/
def fnMonicQuotientsWrong : ChangeSpec := { name := "fnMonicQuotients", fn := fun _ => fun
  | [d] => { results := [.lit (.bool false)], args := [d] }
  | _ => none }
def FnMonicQuotientsWrongFalsely : Prop := fnMonicQuotientsRow.holds Try.pinned (OpenSpec.ofChange fnMonicQuotientsWrong)

/-- 'laws.FnExactIsSmall': WHATEVER THE INPUT: true; the input reads as it did. -/
def fnExactIsSmallSpec : ChangeSpec := { name := "fnExactIsSmall", fn := fun _ => fun
  | [d] => { results := [.lit (.bool true)], args := [d] }
  | _ => none }
def fnExactIsSmallRow : OpenClaim := { program := "ytbolmmgkmgmfeaa", sum := "89605f3acd668812e945a4d9e77d2e687722e0b8d1b5eafcc25368087c5320e4", func := "loop.example/g01000/laws.FnExactIsSmall", spec := "fnExactIsSmall", apart := false }
def FnExactIsSmallSaid : Prop := fnExactIsSmallRow.holds Try.pinned (OpenSpec.ofChange fnExactIsSmallSpec)

/-- ITS FALSE NEIGHBOUR: 'it returns false'. Refute it at one input. -/
def fnExactIsSmallWrong : ChangeSpec := { name := "fnExactIsSmall", fn := fun _ => fun
  | [d] => { results := [.lit (.bool false)], args := [d] }
  | _ => none }
def FnExactIsSmallWrongFalsely : Prop := fnExactIsSmallRow.holds Try.pinned (OpenSpec.ofChange fnExactIsSmallWrong)

/-- 'laws.FnExactSylvesterMatrix': WHATEVER THE INPUT: true; the input reads as it did. -/
def fnExactSylvesterMatrixSpec : ChangeSpec := { name := "fnExactSylvesterMatrix", fn := fun _ => fun
  | [d1, d2] => { results := [.lit (.bool true)], args := [d1, d2] }
  | _ => none }
def fnExactSylvesterMatrixRow : OpenClaim := { program := "ytbolmmgkmgmfeaa", sum := "89605f3acd668812e945a4d9e77d2e687722e0b8d1b5eafcc25368087c5320e4", func := "loop.example/g01000/laws.FnExactSylvesterMatrix", spec := "fnExactSylvesterMatrix", apart := false }
def FnExactSylvesterMatrixSaid : Prop := fnExactSylvesterMatrixRow.holds Try.pinned (OpenSpec.ofChange fnExactSylvesterMatrixSpec)

/-- ITS FALSE NEIGHBOUR: 'it returns false'. Refute it at one input. -/
def fnExactSylvesterMatrixWrong : ChangeSpec := { name := "fnExactSylvesterMatrix", fn := fun _ => fun
  | [d1, d2] => { results := [.lit (.bool false)], args := [d1, d2] }
  | _ => none }
def FnExactSylvesterMatrixWrongFalsely : Prop := fnExactSylvesterMatrixRow.holds Try.pinned (OpenSpec.ofChange fnExactSylvesterMatrixWrong)

/-- 'laws.FnExactDivideMonic': WHATEVER THE INPUT: true; the input reads as it did. -/
def fnExactDivideMonicSpec : ChangeSpec := { name := "fnExactDivideMonic", fn := fun _ => fun
  | [d1, d2] => { results := [.lit (.bool true)], args := [d1, d2] }
  | _ => none }
def fnExactDivideMonicRow : OpenClaim := { program := "ytbolmmgkmgmfeaa", sum := "89605f3acd668812e945a4d9e77d2e687722e0b8d1b5eafcc25368087c5320e4", func := "loop.example/g01000/laws.FnExactDivideMonic", spec := "fnExactDivideMonic", apart := false }
def FnExactDivideMonicSaid : Prop := fnExactDivideMonicRow.holds Try.pinned (OpenSpec.ofChange fnExactDivideMonicSpec)

/-- ITS FALSE NEIGHBOUR: 'it returns false'. Refute it at one input. -/
def fnExactDivideMonicWrong : ChangeSpec := { name := "fnExactDivideMonic", fn := fun _ => fun
  | [d1, d2] => { results := [.lit (.bool false)], args := [d1, d2] }
  | _ => none }
def FnExactDivideMonicWrongFalsely : Prop := fnExactDivideMonicRow.holds Try.pinned (OpenSpec.ofChange fnExactDivideMonicWrong)

/-- 'laws.FnExactPowerSums': WHATEVER THE INPUT: true; the input reads as it did. -/
def fnExactPowerSumsSpec : ChangeSpec := { name := "fnExactPowerSums", fn := fun _ => fun
  | [d1, d2] => { results := [.lit (.bool true)], args := [d1, d2] }
  | _ => none }
def fnExactPowerSumsRow : OpenClaim := { program := "ytbolmmgkmgmfeaa", sum := "89605f3acd668812e945a4d9e77d2e687722e0b8d1b5eafcc25368087c5320e4", func := "loop.example/g01000/laws.FnExactPowerSums", spec := "fnExactPowerSums", apart := false }
def FnExactPowerSumsSaid : Prop := fnExactPowerSumsRow.holds Try.pinned (OpenSpec.ofChange fnExactPowerSumsSpec)

/-- ITS FALSE NEIGHBOUR: 'it returns false'. Refute it at one input. -/
def fnExactPowerSumsWrong : ChangeSpec := { name := "fnExactPowerSums", fn := fun _ => fun
  | [d1, d2] => { results := [.lit (.bool false)], args := [d1, d2] }
  | _ => none }
def FnExactPowerSumsWrongFalsely : Prop := fnExactPowerSumsRow.holds Try.pinned (OpenSpec.ofChange fnExactPowerSumsWrong)

/- THE SECOND FORM. 'bulk': how many values and letters a reading holds, each counted each time it is reached (what is shared counts as often as it is met; a slice's spare places count too). A statement '..UptoSaid' is the law's where the arguments, and the package variables that the reading takes, are together of bulk at most 1048576: NARROWER than '..Said'. Prove '..Said' where nothing that the law and all that it calls make is longer than what came in: it says more and counts as full. Else prove '..UptoSaid'. A law counts once. -/
mutual
def uptoBulk {H : Type} : DataW H → Nat
  | .lit (.string bytes) => bytes.length + 1
  | .lit _ => 1
  | .nil => 1
  | .ptr d => uptoBulk d + 1
  | .slice elems spare => uptoBulkAll elems + uptoBulkAll spare + 1
  | .agg parts => uptoBulkAll parts + 1
  | .iface _ d => uptoBulk d + 1
  | .map entries => uptoBulkEntries entries + 1
  | .held _ => 1
def uptoBulkAll {H : Type} : List (DataW H) → Nat
  | [] => 0
  | d :: r => uptoBulk d + uptoBulkAll r
def uptoBulkEntries {H : Type} : List (Lit × DataW H) → Nat
  | [] => 0
  | x :: r => uptoBulkEntry x + uptoBulkEntries r
def uptoBulkEntry {H : Type} : Lit × DataW H → Nat
  | (.string bytes, d) => bytes.length + uptoBulk d + 1
  | (_, d) => uptoBulk d + 1
 end
def uptoSmall : (H : Type) → List (DataW H) → Bool := fun _ ds => decide (uptoBulkAll ds ≤ 1048576)
def OpenSpec.upto (s : _root_.Go.ChangeSpec) : _root_.Go.OpenSpec := { _root_.Go.OpenSpec.ofChange s with cond := some uptoSmall }

/-- 'laws.FnRootsOfPrimes', WHERE WHAT IT READS IS OF BULK AT MOST 1048576: true; the input reads as it did. -/
def fnRootsOfPrimesUptoRow : OpenClaim := { program := "ytbolmmgkmgmfeaa", sum := "89605f3acd668812e945a4d9e77d2e687722e0b8d1b5eafcc25368087c5320e4", func := "loop.example/g01000/laws.FnRootsOfPrimes", spec := "fnRootsOfPrimes", apart := false, narrowed := true }
def FnRootsOfPrimesUptoSaid : Prop := fnRootsOfPrimesUptoRow.holds Try.pinned (OpenSpec.upto fnRootsOfPrimesSpec)

/-- 'laws.FnExactPrimitiveRoot', WHERE WHAT IT READS IS OF BULK AT MOST 1048576: true; the input reads as it did. -/
def fnExactPrimitiveRootUptoRow : OpenClaim := { program := "ytbolmmgkmgmfeaa", sum := "89605f3acd668812e945a4d9e77d2e687722e0b8d1b5eafcc25368087c5320e4", func := "loop.example/g01000/laws.FnExactPrimitiveRoot", spec := "fnExactPrimitiveRoot", apart := false, narrowed := true }
def FnExactPrimitiveRootUptoSaid : Prop := fnExactPrimitiveRootUptoRow.holds Try.pinned (OpenSpec.upto fnExactPrimitiveRootSpec)

/-- 'laws.FnMonicQuotients', WHERE WHAT IT READS IS OF BULK AT MOST 1048576: true; the input reads as it did. -/
def fnMonicQuotientsUptoRow : OpenClaim := { program := "ytbolmmgkmgmfeaa", sum := "89605f3acd668812e945a4d9e77d2e687722e0b8d1b5eafcc25368087c5320e4", func := "loop.example/g01000/laws.FnMonicQuotients", spec := "fnMonicQuotients", apart := false, narrowed := true }
def FnMonicQuotientsUptoSaid : Prop := fnMonicQuotientsUptoRow.holds Try.pinned (OpenSpec.upto fnMonicQuotientsSpec)

/-- 'laws.FnExactIsSmall', WHERE WHAT IT READS IS OF BULK AT MOST 1048576: true; the input reads as it did. -/
def fnExactIsSmallUptoRow : OpenClaim := { program := "ytbolmmgkmgmfeaa", sum := "89605f3acd668812e945a4d9e77d2e687722e0b8d1b5eafcc25368087c5320e4", func := "loop.example/g01000/laws.FnExactIsSmall", spec := "fnExactIsSmall", apart := false, narrowed := true }
def FnExactIsSmallUptoSaid : Prop := fnExactIsSmallUptoRow.holds Try.pinned (OpenSpec.upto fnExactIsSmallSpec)

/-- 'laws.FnExactSylvesterMatrix', WHERE WHAT IT READS IS OF BULK AT MOST 1048576: true; the input reads as it did. -/
def fnExactSylvesterMatrixUptoRow : OpenClaim := { program := "ytbolmmgkmgmfeaa", sum := "89605f3acd668812e945a4d9e77d2e687722e0b8d1b5eafcc25368087c5320e4", func := "loop.example/g01000/laws.FnExactSylvesterMatrix", spec := "fnExactSylvesterMatrix", apart := false, narrowed := true }
def FnExactSylvesterMatrixUptoSaid : Prop := fnExactSylvesterMatrixUptoRow.holds Try.pinned (OpenSpec.upto fnExactSylvesterMatrixSpec)

/-- 'laws.FnExactDivideMonic', WHERE WHAT IT READS IS OF BULK AT MOST 1048576: true; the input reads as it did. -/
def fnExactDivideMonicUptoRow : OpenClaim := { program := "ytbolmmgkmgmfeaa", sum := "89605f3acd668812e945a4d9e77d2e687722e0b8d1b5eafcc25368087c5320e4", func := "loop.example/g01000/laws.FnExactDivideMonic", spec := "fnExactDivideMonic", apart := false, narrowed := true }
def FnExactDivideMonicUptoSaid : Prop := fnExactDivideMonicUptoRow.holds Try.pinned (OpenSpec.upto fnExactDivideMonicSpec)

/-- 'laws.FnExactPowerSums', WHERE WHAT IT READS IS OF BULK AT MOST 1048576: true; the input reads as it did. -/
def fnExactPowerSumsUptoRow : OpenClaim := { program := "ytbolmmgkmgmfeaa", sum := "89605f3acd668812e945a4d9e77d2e687722e0b8d1b5eafcc25368087c5320e4", func := "loop.example/g01000/laws.FnExactPowerSums", spec := "fnExactPowerSums", apart := false, narrowed := true }
def FnExactPowerSumsUptoSaid : Prop := fnExactPowerSumsUptoRow.holds Try.pinned (OpenSpec.upto fnExactPowerSumsSpec)

end Rows
end Go.Proofs.Ytbolmmgkmgmfeaa
