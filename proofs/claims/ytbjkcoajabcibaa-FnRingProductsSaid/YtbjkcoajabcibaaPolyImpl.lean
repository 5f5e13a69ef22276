/- Contracts of the walk: chapter 6 in impl: valid polynomials, lists as nine coefficients and back. -/
import Derived.Test.YtbjkcoajabcibaaPolyNine
import Derived.Test.YtbjkcoajabcibaaLfA
import Derived.Lib.SliceRun
namespace Go.Proofs.Ytbjkcoajabcibaa
open Go.RowKit
set_option linter.unusedVariables false
set_option maxRecDepth 20000
set_option linter.unusedSimpArgs false
theorem Try.infoI1 : (Try.prog.info? 2).map (·.size) = some 1 := by kernel_rfl
theorem results_cell_mid {fn : Func} {p : Tmp} {ty : TypeId} (h : fn.results = #[.cell p ty]) (tmps : Array Value) (w : World) (b : Nat) (cs : List Value) (d : TypeDesc)
    (hp : tmps.getD p undef = .pointer (some ⟨b, 0, none⟩)) (hr : w.rangeAt b 0 cs) (hu : Try.prog.underlying ty = some d) (hd : d.isRow = true) (hi : (Try.prog.info? ty).map (·.size) = some cs.length) :
    (results fn tmps).run Try.prog w = .ok (.agg cs.toArray) w := by
  have hp' : tmps[p]?.getD undef = .pointer (some ⟨b, 0, none⟩) := by simpa using hp
  simp [results, h, hp', asAddr, run_loadVar_mid w b 0 ty cs d hr hu hd hi]
theorem tab_nine {f : Nat → Int} : (arrV (tabL 9 f)).size = 9 := by rw [arrV_size, tabL_length]
theorem map_nine {l : List Int} (h : l.length = 9) : (l.map (Value.int .i64)).length = 9 := by rw [List.length_map, h]
end Go.Proofs.Ytbjkcoajabcibaa
