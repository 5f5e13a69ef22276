/- Proved here: the Go law FnExactPadicOf of this seat answers true at every input and leaves its argument as it was; no conditions beyond the given row's own. -/
import Derived.Test.YtgckamlibbjgcaaRows
import Derived.Test.YtgckamlibbjgcaaRatLaw
import Derived.WalkKit
import Derived.ProofKit
import Derived.OpenShut
import Derived.ShutString
import Derived.Lib.SmallJoins
namespace Go.Proofs.Ytgckamlibbjgcaa.fnExactPadicOf
open Go.ChangeShapes Go.WideShapes Go.ChangeAt Go.RowKit Go.Joins
set_option linter.unusedVariables false

theorem own : ownKnob Try.prog.godebug = none := by kernel_rfl
theorem cells66 : Try.prog.cellsOf 66 = 2 := by kernel_rfl
theorem cells59 : Try.prog.cellsOf 59 = 2 := by kernel_rfl

theorem walk (a0x a0y a1x a1y : Int) (wa0x : (Lit.int .i64 a0x).wf = true) (wa0y : (Lit.int .i64 a0y).wf = true) (wa1x : (Lit.int .i64 a1x).wf = true) (wa1y : (Lit.int .i64 a1y).wf = true) (w : World) :
    Calls Try.prog 9 #[.agg #[.int .i64 a0x, .int .i64 a0y], .agg #[.int .i64 a1x, .int .i64 a1y]] w fun e w' => e = .returned (.bool true) ∧ Below w.heap.size w w' :=
  exactPof_walk a0x a0y a1x a1y wa0x wa0y wa1x wa1y w

set_option maxRecDepth 100000 in
theorem lifted (os : Os) (started : os.Started) (H : Type) (enc : TypeId × Value → H) :
    ReturnsInHanded {} Try.checked os 9 .any (Rows.fnExactPadicOfSpec.pre6 enc Try.prog Try.f9 Rows.fnExactPadicOfRow.domain false) (Rows.fnExactPadicOfSpec.post enc Try.prog Try.f9 false true false false) := by
  refine returnsInHanded_of_change (C := Try.checked) own started (by kernel_rfl) Try.func9
    (ChangeSpec.witness6 (enc := enc) (C := Try.checked) false ⟨#[], #[.agg #[.int .i64 0, .int .i64 0], .agg #[.int .i64 0, .int .i64 0]], []⟩ 8 (by kernel_rfl) (by kernel_rfl) (by kernel_rfl) (by kernel_rfl)) ?_
  intro W base args ds gs before hval0 hW hcnd _
  have hval : ∀ (j : Nat) t v, Try.f9.params[j]? = some t → args[j]? = some v → Value.okWide Try.prog W .any base t v := hval0
  have hW' := hW
  obtain ⟨p, q, hA0, hV, rfl, hfz, hnd⟩ := hW
  have hA : DataW.TrodAll enc Try.prog W 0 (fun _ => true) true Try.f9.params.toList args.toList ds p := hA0
  rw [Try.params9] at hA hval
  obtain ⟨v0, vs0, d0, ds0, p0, q0, hargs, rfl, rfl, h0, r0⟩ := trodAll_cons hA
  obtain ⟨v1, vs1, d1, ds1, p1, q1, rfl, rfl, rfl, h1, r1⟩ := trodAll_cons r0
  obtain ⟨rfl, rfl, rfl⟩ := trodAll_nil r1
  obtain rfl : args = #[v0, v1] := by cases args; simp_all
  obtain ⟨rfl, rfl⟩ := trodVars_none hV
  obtain ⟨c0_0, c0_1, y0_0, y0_1, m0, rfl, rfl, rfl, hy0_0, hy0_1⟩ := open_agg2 Try.underlying66 (by kernel_rfl) cells66 (hval 0 66 v0 rfl rfl) h0
  obtain ⟨a0x, e0_0, rfl, wa0x⟩ := DataW.trod_int Try.underlying2 hy0_0
  obtain ⟨a0y, e0_1, rfl, wa0y⟩ := DataW.trod_int Try.underlying2 hy0_1
  simp at e0_0 e0_1
  subst e0_0 e0_1
  obtain ⟨c1_0, c1_1, y1_0, y1_1, m1, rfl, rfl, rfl, hy1_0, hy1_1⟩ := open_agg2 Try.underlying59 (by kernel_rfl) cells59 (hval 1 59 v1 rfl rfl) h1
  obtain ⟨a1x, e1_0, rfl, wa1x⟩ := DataW.trod_int Try.underlying2 hy1_0
  obtain ⟨a1y, e1_1, rfl, wa1y⟩ := DataW.trod_int Try.underlying2 hy1_1
  simp at e1_0 e1_1
  subst e1_0 e1_1
  clear hA0 hval0
  simp only [List.append_nil] at hW'
  refine (walk a0x a0y a1x a1y wa0x wa0y wa1x wa1y W).mono fun e W' ⟨he, hg⟩ => ?_
  subst he
  exact ⟨_, rfl, _, _, _, [], [], [], hW', (trodAll_cons_mk (shut_bool Try.underlying4 _) trodAll_mk0), (trodAll_cons_mk (shut_agg2 (y0 := (.lit (.int .i64 a0x), [])) (y1 := (.lit (.int .i64 a0y), [])) Try.underlying66 (by kernel_rfl) cells66 ⟨1, by simp [DataW.trod, Try.underlying2, wa0x]⟩ ⟨1, by simp [DataW.trod, Try.underlying2, wa0y]⟩) (trodAll_cons_mk (shut_agg2 (y0 := (.lit (.int .i64 a1x), [])) (y1 := (.lit (.int .i64 a1y), [])) Try.underlying59 (by kernel_rfl) cells59 ⟨1, by simp [DataW.trod, Try.underlying2, wa1x]⟩ ⟨1, by simp [DataW.trod, Try.underlying2, wa1y]⟩) trodAll_mk0)), rfl, hg.frame _, fun h => by cases h⟩

theorem over : Rows.fnExactPadicOfRow.holds Try.pinned (OpenSpec.ofChange Rows.fnExactPadicOfSpec) :=
  OpenClaim.holds_of_wide 9 Try.f9 rfl rfl rfl rfl rfl rfl rfl ⟨rfl, rfl, rfl, rfl, rfl⟩ rfl rfl rfl rfl rfl (by kernel_rfl) Try.func9 (by kernel_rfl)
    (of_decide_eq_true (by kernel_rfl)) (by unfold Func.isWrapper; first | (rw [if_pos (by decide +kernel)]; kernel_rfl) | (rw [if_neg (by decide +kernel)]; exact ⟨rfl, rfl⟩))
    (fun os started H enc _ => lifted os started H enc)

theorem proved : Rows.FnExactPadicOfSaid :=
  over
#print axioms proved
end Go.Proofs.Ytgckamlibbjgcaa.fnExactPadicOf
