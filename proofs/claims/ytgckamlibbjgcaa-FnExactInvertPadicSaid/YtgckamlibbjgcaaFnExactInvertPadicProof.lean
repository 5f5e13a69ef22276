/- Proved here: the Go law FnExactInvertPadic of this seat answers true at every input and leaves its argument as it was; no conditions beyond the given row's own. -/
import Derived.Test.YtgckamlibbjgcaaRows
import Derived.Test.YtgckamlibbjgcaaPadLaw
import Derived.WalkKit
import Derived.ProofKit
import Derived.OpenShut
import Derived.ShutString
import Derived.Lib.SmallJoins
namespace Go.Proofs.Ytgckamlibbjgcaa.fnExactInvertPadic
open Go.ChangeShapes Go.WideShapes Go.ChangeAt Go.RowKit Go.Joins
set_option linter.unusedVariables false

theorem own : ownKnob Try.prog.godebug = none := by kernel_rfl
theorem cells62 : Try.prog.cellsOf 62 = 4 := by kernel_rfl

theorem walk (a0x a0y a0z a0u : Int) (wa0x : (Lit.int .i64 a0x).wf = true) (wa0y : (Lit.int .i64 a0y).wf = true) (wa0z : (Lit.int .i64 a0z).wf = true) (wa0u : (Lit.int .i64 a0u).wf = true) (w : World) :
    Calls Try.prog 8 #[.agg #[.int .i64 a0x, .int .i64 a0y, .int .i64 a0z, .int .i64 a0u]] w fun e w' => e = .returned (.bool true) ∧ Below w.heap.size w w' :=
  exactInvert_walk a0x a0y a0z a0u wa0x wa0y wa0z wa0u w

set_option maxRecDepth 100000 in
theorem lifted (os : Os) (started : os.Started) (H : Type) (enc : TypeId × Value → H) :
    ReturnsInHanded {} Try.checked os 8 .any (Rows.fnExactInvertPadicSpec.pre6 enc Try.prog Try.f8 Rows.fnExactInvertPadicRow.domain false) (Rows.fnExactInvertPadicSpec.post enc Try.prog Try.f8 false true false false) := by
  refine returnsInHanded_of_change (C := Try.checked) own started (by kernel_rfl) Try.func8
    (ChangeSpec.witness6 (enc := enc) (C := Try.checked) false ⟨#[], #[.agg #[.int .i64 0, .int .i64 0, .int .i64 0, .int .i64 0]], []⟩ 8 (by kernel_rfl) (by kernel_rfl) (by kernel_rfl) (by kernel_rfl)) ?_
  intro W base args ds gs before hval0 hW hcnd _
  have hval : ∀ (j : Nat) t v, Try.f8.params[j]? = some t → args[j]? = some v → Value.okWide Try.prog W .any base t v := hval0
  have hW' := hW
  obtain ⟨p, q, hA0, hV, rfl, hfz, hnd⟩ := hW
  have hA : DataW.TrodAll enc Try.prog W 0 (fun _ => true) true Try.f8.params.toList args.toList ds p := hA0
  rw [Try.params8] at hA hval
  obtain ⟨v0, vs0, d0, ds0, p0, q0, hargs, rfl, rfl, h0, r0⟩ := trodAll_cons hA
  obtain ⟨rfl, rfl, rfl⟩ := trodAll_nil r0
  obtain rfl : args = #[v0] := by cases args; simp_all
  obtain ⟨rfl, rfl⟩ := trodVars_none hV
  obtain ⟨c0_0, c0_1, c0_2, c0_3, y0_0, y0_1, y0_2, y0_3, m0, rfl, rfl, rfl, hy0_0, hy0_1, hy0_2, hy0_3⟩ := open_agg4 Try.underlying62 (by kernel_rfl) cells62 (hval 0 62 v0 rfl rfl) h0
  obtain ⟨a0x, e0_0, rfl, wa0x⟩ := DataW.trod_int Try.underlying2 hy0_0
  obtain ⟨a0y, e0_1, rfl, wa0y⟩ := DataW.trod_int Try.underlying2 hy0_1
  obtain ⟨a0z, e0_2, rfl, wa0z⟩ := DataW.trod_int Try.underlying2 hy0_2
  obtain ⟨a0u, e0_3, rfl, wa0u⟩ := DataW.trod_int Try.underlying2 hy0_3
  simp at e0_0 e0_1 e0_2 e0_3
  subst e0_0 e0_1 e0_2 e0_3
  clear hA0 hval0
  simp only [List.append_nil] at hW'
  refine (walk a0x a0y a0z a0u wa0x wa0y wa0z wa0u W).mono fun e W' ⟨he, hg⟩ => ?_
  subst he
  exact ⟨_, rfl, _, _, _, [], [], [], hW', (trodAll_cons_mk (shut_bool Try.underlying4 _) trodAll_mk0), (trodAll_cons_mk (shut_agg4 (y0 := (.lit (.int .i64 a0x), [])) (y1 := (.lit (.int .i64 a0y), [])) (y2 := (.lit (.int .i64 a0z), [])) (y3 := (.lit (.int .i64 a0u), [])) Try.underlying62 (by kernel_rfl) cells62 ⟨1, by simp [DataW.trod, Try.underlying2, wa0x]⟩ ⟨1, by simp [DataW.trod, Try.underlying2, wa0y]⟩ ⟨1, by simp [DataW.trod, Try.underlying2, wa0z]⟩ ⟨1, by simp [DataW.trod, Try.underlying2, wa0u]⟩) trodAll_mk0), rfl, hg.frame _, fun h => by cases h⟩

theorem over : Rows.fnExactInvertPadicRow.holds Try.pinned (OpenSpec.ofChange Rows.fnExactInvertPadicSpec) :=
  OpenClaim.holds_of_wide 8 Try.f8 rfl rfl rfl rfl rfl rfl rfl ⟨rfl, rfl, rfl, rfl, rfl⟩ rfl rfl rfl rfl rfl (by kernel_rfl) Try.func8 (by kernel_rfl)
    (of_decide_eq_true (by kernel_rfl)) (by unfold Func.isWrapper; first | (rw [if_pos (by decide +kernel)]; kernel_rfl) | (rw [if_neg (by decide +kernel)]; exact ⟨rfl, rfl⟩))
    (fun os started H enc _ => lifted os started H enc)

theorem proved : Rows.FnExactInvertPadicSaid :=
  over
#print axioms proved
end Go.Proofs.Ytgckamlibbjgcaa.fnExactInvertPadic
