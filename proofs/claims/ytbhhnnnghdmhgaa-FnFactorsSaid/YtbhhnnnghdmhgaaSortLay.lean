/-
  DERIVED: THE SHELF's CONTRACTS AT THIS DUMP, IN PLAIN WORDS (tools/lay-plain.mjs out of 'YtbhhnnnghdmhgaaSortSoft.lean', which tools/lay-shelf.mjs wrote): THE SAME DECLARATIONS UNDER THE SAME NAMES: 'import', 'namespace', 'open', 'def', 'theorem' AND NOTHING ELSE: no command of the shelf's: FOR A HAND-IN. Each laying: the table of numbers ('.._ren') and one theorem, a field a fact of the dump's own or the kernel's comparison; each contract: ONE APPLICATION.
-/
import Derived.Shelf.SlGeneric
import Derived.Ground.SlgnProg
import Derived.Shelf.SortG.Plain
import Derived.Test.YtbhhnnnghdmhgaaProg
namespace Go.Proofs
open Go.Shelf
def Try.sortL_ren : Go.Shelf.Ren := ⟨fun | 53 => 51 | 64 => 60 | 63 => 59 | 78 => 70 | 79 => 71 | 70 => 61 | 71 => 62 | 72 => 63 | 73 => 64 | 74 => 65 | 75 => 66 | 59 => 67 | 76 => 68 | 77 => 69 | 88 => 72 | 89 => 73 | 90 => 74 | 91 => 75 | 92 => 76 | 68 => 77 | 96 => 78 | n => n, fun | 22 => 34 | 23 => 2 | 3 => 3 | 51 => 59 | 0 => 0 | 67 => 69 | 69 => 71 | 4 => 4 | 61 => 62 | 60 => 61 | 44 => 66 | 5 => 5 | 9 => 9 | 75 => 72 | 79 => 76 | 83 => 78 | 84 => 79 | n => n, fun | n => n⟩
theorem Try.sortL : Go.Proofs.SlLaysN.n53 Try.prog Try.sortL_ren := {
  mixed := by kernel_rfl
  f53 := ⟨Try.f51.name, by decide, Try.func51.trans (congrArg some (by kernel_rfl))⟩
  f59 := ⟨Try.f67.name, by decide, Try.func67.trans (congrArg some (by kernel_rfl))⟩
  f63 := ⟨Try.f59.name, by decide, Try.func59.trans (congrArg some (by kernel_rfl))⟩
  f64 := Try.func60.trans (congrArg some (by kernel_rfl))
  f68 := ⟨Try.f77.name, by decide, Try.func77.trans (congrArg some (by kernel_rfl))⟩
  f70 := ⟨Try.f61.name, by decide, Try.func61.trans (congrArg some (by kernel_rfl))⟩
  f71 := ⟨Try.f62.name, by decide, Try.func62.trans (congrArg some (by kernel_rfl))⟩
  f72 := ⟨Try.f63.name, by decide, Try.func63.trans (congrArg some (by kernel_rfl))⟩
  f73 := ⟨Try.f64.name, by decide, Try.func64.trans (congrArg some (by kernel_rfl))⟩
  f74 := ⟨Try.f65.name, by decide, Try.func65.trans (congrArg some (by kernel_rfl))⟩
  f75 := ⟨Try.f66.name, by decide, Try.func66.trans (congrArg some (by kernel_rfl))⟩
  f76 := ⟨Try.f68.name, by decide, Try.func68.trans (congrArg some (by kernel_rfl))⟩
  f77 := ⟨Try.f69.name, by decide, Try.func69.trans (congrArg some (by kernel_rfl))⟩
  f78 := Try.func70.trans (congrArg some (by kernel_rfl))
  f79 := Try.func71.trans (congrArg some (by kernel_rfl))
  f88 := ⟨Try.f72.name, by decide, Try.func72.trans (congrArg some (by kernel_rfl))⟩
  f89 := Try.func73.trans (congrArg some (by kernel_rfl))
  f90 := Try.func74.trans (congrArg some (by kernel_rfl))
  f91 := ⟨Try.f75.name, by decide, Try.func75.trans (congrArg some (by kernel_rfl))⟩
  f92 := ⟨Try.f76.name, by decide, Try.func76.trans (congrArg some (by kernel_rfl))⟩
  f96 := ⟨Try.f78.name, by decide, Try.func78.trans (congrArg some (by kernel_rfl))⟩
  t0 := Try.underlying0
  a0 := Try.isAgg0
  z0 := Try.sizeOf0
  v0 := Try.zeroValue0
  t3 := Try.underlying3
  a3 := Try.isAgg3
  z3 := Try.sizeOf3
  v3 := Try.zeroValue3
  t4 := Try.underlying4
  a4 := Try.isAgg4
  z4 := Try.sizeOf4
  v4 := Try.zeroValue4
  t5 := Try.underlying5
  a5 := Try.isAgg5
  z5 := Try.sizeOf5
  v5 := Try.zeroValue5
  t9 := Try.underlying9
  a9 := Try.isAgg9
  z9 := Try.sizeOf9
  v9 := Try.zeroValue9
  t22 := Try.underlying34
  a22 := Try.isAgg34
  z22 := Try.sizeOf34
  v22 := Try.zeroValue34
  t23 := Try.underlying2
  a23 := Try.isAgg2
  z23 := Try.sizeOf2
  v23 := Try.zeroValue2
  t44 := Try.underlying66
  a44 := Try.isAgg66
  z44 := Try.sizeOf66
  v44 := Try.zeroValue66
  t51 := Try.underlying59
  a51 := Try.isAgg59
  z51 := Try.sizeOf59
  v51 := Try.zeroValue59
  t60 := Try.underlying61
  a60 := Try.isAgg61
  z60 := Try.sizeOf61
  v60 := Try.zeroValue61
  t61 := Try.underlying62
  a61 := Try.isAgg62
  z61 := Try.sizeOf62
  v61 := Try.zeroValue62
  t67 := Try.underlying69
  a67 := Try.isAgg69
  z67 := Try.sizeOf69
  v67 := Try.zeroValue69
  t69 := Try.underlying71
  a69 := Try.isAgg71
  z69 := Try.sizeOf71
  v69 := Try.zeroValue71
  t75 := Try.underlying72
  a75 := Try.isAgg72
  z75 := Try.sizeOf72
  v75 := Try.zeroValue72
  t79 := Try.underlying76
  a79 := Try.isAgg76
  z79 := Try.sizeOf76
  v79 := Try.zeroValue76
  t83 := Try.underlying78
  a83 := Try.isAgg78
  z83 := Try.sizeOf78
  v83 := Try.zeroValue78
  t84 := Try.underlying79
  a84 := Try.isAgg79
  z84 := Try.sizeOf79
  v84 := Try.zeroValue79 }
end Go.Proofs
