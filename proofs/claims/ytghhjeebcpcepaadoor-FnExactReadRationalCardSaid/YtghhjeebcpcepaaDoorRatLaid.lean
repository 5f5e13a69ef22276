/- What the seat's listed variables give the walks: the table of powers of ten, the errors of strconv, the length limit of the text search; and a world that holds them all. -/
import Derived.Test.YtghhjeebcpcepaaDoorRows
import Derived.Test.YtghhjeebcpcepaaDoorRatTxt1
import Derived.WalkKit
import Derived.ProofKit
import Derived.OpenShut
import Derived.Deep.DeepHandedRow
import Derived.Lib.LaidTab
import Derived.Stop.LaidErr
import Derived.Stop.Texts
import Derived.WideShapes
import Derived.HandedShaped
namespace Go.Proofs.YtghhjeebcpcepaaDoor
open Go.ChangeShapes Go.WideShapes Go.ChangeAt Go.RowKit
set_option linter.unusedVariables false
theorem gTabType : (Tryd.prog.globals[0]?).map (·.type) = some 124 := by kernel_rfl
theorem cellsTab : Tryd.prog.cellsOf 124 = 20 := by kernel_rfl
theorem cellsU : Tryd.prog.cellsOf 107 = 1 := by kernel_rfl
theorem gRange : Tryd.prog.globalNamed "strconv.ErrRange" = some 5 := by kernel_rfl
theorem gRangeType : (Tryd.prog.globals[5]?).map (·.type) = some 87 := by kernel_rfl
theorem gSyntax : Tryd.prog.globalNamed "strconv.ErrSyntax" = some 4 := by kernel_rfl
theorem gSyntaxType : (Tryd.prog.globals[4]?).map (·.type) = some 87 := by kernel_rfl
theorem cellsErr : Tryd.prog.cellsOf 144 = 1 := by kernel_rfl
theorem cellsStr : Tryd.prog.cellsOf 9 = 1 := by kernel_rfl
theorem starErr : "*" ++ "errors.errorString" = "*errors.errorString" := by decide
theorem rowErr (u : TypeId) (h : Tryd.prog.typeName? 3 u = some "*errors.errorString") : u = 142 :=
  typeName_ptr_named (nm := "errors.errorString") (by rw [starErr]; kernel_rfl) (by kernel_rfl) (by decide) u (by rw [starErr]; exact h)
theorem tab_of_laid {W : World} (h : laidMetH Tryd.prog Rows.fnExactReadRationalRow.laid W) : Tab W := by
  have h0 : laidMet Tryd.prog Rows.fnExactReadRationalRow.laid W := h
  exact Lib.tabIs_of_head (rest := _) gTab gTabType Tryd.underlying124 Tryd.underlying107 cellsU cellsTab h0.tail.tail
theorem env_of_laid {W : World} (h : laidMetH Tryd.prog Rows.fnExactReadRationalRow.laid W) (hS : W.ShapedOpen Tryd.prog) : Env W := by
  have h0 : laidMet Tryd.prog Rows.fnExactReadRationalRow.laid W := h
  obtain ⟨a1, s1, hv1, _⟩ := laid_sentinel h0.tail.tail.tail gRange gRangeType Tryd.underlying87 rowErr Tryd.underlying142 Tryd.underlying144 rfl rfl Tryd.underlying9 cellsErr cellsStr
  obtain ⟨a2, s2, hv2, _⟩ := laid_sentinel h0.tail.tail.tail.tail gSyntax gSyntaxType Tryd.underlying87 rowErr Tryd.underlying142 Tryd.underlying144 rfl rfl Tryd.underlying9 cellsErr cellsStr
  have c1 : W.cell? ⟨5, 0, none⟩ = some (.iface 142 (.pointer (some a1))) := by simpa using World.var?_cell gRange hv1 0
  have c2 : W.cell? ⟨4, 0, none⟩ = some (.iface 142 (.pointer (some a2))) := by simpa using World.var?_cell gSyntax hv2 0
  exact ⟨⟨_, c2, .inr ⟨_, _, rfl⟩⟩, ⟨_, c1, .inr ⟨_, _, rfl⟩⟩, cell_of_shapedOpen_int (zero := #[.int .i64 0]) (t := 3) hS (of_decide_eq_true (by kernel_rfl)) (by kernel_rfl) rfl (by kernel_rfl) (by kernel_rfl) Tryd.underlying3⟩
/-- block g holding the cells cs -/
def layAt (g : Nat) (cs : Array Value) (h : Array Obj) : Array Obj := h.modify g fun o => match o with
  | .cells _ t frozen => .cells cs t frozen
  | o => o
def layAll (l : List (Nat × Array Value)) (h : Array Obj) : Array Obj := l.foldl (fun h x => layAt x.1 x.2 h) h
def u8s (l : List Nat) : Array Value := (l.map fun n : Nat => Value.int .u8 (n : Int)).toArray
noncomputable def lowBlock : Nat := (World.holding Tryd.prog default ⟨#[], #[], []⟩).heap.size
/-- a world for the witness: the settled one, the listed variables holding what their initialisers lay -/
noncomputable def laidWorld (os : Os) : World :=
  let w0 := World.holding Tryd.prog os ⟨#[.cells #[.string ⟨#[118, 97, 108, 117, 101, 32, 111, 117, 116, 32, 111, 102, 32, 114, 97, 110, 103, 101]⟩] 144, .cells #[.string ⟨#[105, 110, 118, 97, 108, 105, 100, 32, 115, 121, 110, 116, 97, 120]⟩] 144], #[], []⟩
  { w0 with heap := layAll [
    (5, #[.iface 142 (.pointer (some ⟨lowBlock, 0, none⟩))]),
    (4, #[.iface 142 (.pointer (some ⟨lowBlock + 1, 0, none⟩))]),
    (7, (u8s [0, 1, 56, 2, 57, 49, 28, 3, 61, 58, 42, 50, 38, 29, 17, 4, 62, 47, 59, 36, 45, 43, 51, 22, 53, 39, 33, 30, 24, 18, 12, 5, 63, 55, 48, 27, 60, 41, 37, 16, 46, 35, 44, 21, 52, 32, 23, 11, 54, 26, 40, 15, 34, 20, 31, 10, 25, 14, 19, 9, 13, 8, 7, 6])),
    (6, (u8s [0, 1, 28, 2, 29, 14, 24, 3, 30, 22, 20, 15, 25, 17, 4, 8, 31, 27, 13, 23, 21, 19, 16, 7, 26, 12, 18, 6, 11, 5, 10, 9])),
    (0, #[.int .u64 1, .int .u64 10, .int .u64 100, .int .u64 1000, .int .u64 10000, .int .u64 100000, .int .u64 1000000, .int .u64 10000000, .int .u64 100000000, .int .u64 1000000000, .int .u64 10000000000, .int .u64 100000000000, .int .u64 1000000000000, .int .u64 10000000000000, .int .u64 100000000000000, .int .u64 1000000000000000, .int .u64 10000000000000000, .int .u64 100000000000000000, .int .u64 1000000000000000000, .int .u64 10000000000000000000])] w0.heap }
end Go.Proofs.YtghhjeebcpcepaaDoor
