/- Proved here: the Go law FnExactDoAgree of this seat answers true at every input and leaves its argument as it was; no conditions beyond the given row's own. -/
import Derived.Test.YtgckamlibbjgcaaRows
import Derived.Test.YtgckamlibbjgcaaRatLaw
import Derived.WalkKit
import Derived.ProofKit
import Derived.OpenShut
import Derived.ShutString
import Derived.Lib.SmallJoins
namespace Go.Proofs.Ytgckamlibbjgcaa.fnExactDoAgree
open Go.ChangeShapes Go.WideShapes Go.ChangeAt Go.RowKit Go.Joins
set_option linter.unusedVariables false

theorem own : ownKnob Try.prog.godebug = none := by kernel_rfl
theorem cells66 : Try.prog.cellsOf 66 = 2 := by kernel_rfl
theorem cells62 : Try.prog.cellsOf 62 = 4 := by kernel_rfl

theorem walk (a0x a0y a1x a1y a1z a1u : Int) (wa0x : (Lit.int .i64 a0x).wf = true) (wa0y : (Lit.int .i64 a0y).wf = true) (wa1x : (Lit.int .i64 a1x).wf = true) (wa1y : (Lit.int .i64 a1y).wf = true) (wa1z : (Lit.int .i64 a1z).wf = true) (wa1u : (Lit.int .i64 a1u).wf = true) (w : World) :
    Calls Try.prog 10 #[.agg #[.int .i64 a0x, .int .i64 a0y], .agg #[.int .i64 a1x, .int .i64 a1y, .int .i64 a1z, .int .i64 a1u]] w fun e w' => e = .returned (.bool true) ∧ Below w.heap.size w w' :=
  exactAgree_walk a0x a0y a1x a1y a1z a1u wa0x wa0y wa1x wa1y wa1z wa1u w

set_option maxRecDepth 100000 in
theorem lifted (os : Os) (started : os.Started) (H : Type) (enc : TypeId × Value → H) :
    ReturnsInHanded {} Try.checked os 10 .any (Rows.fnExactDoAgreeSpec.pre6 enc Try.prog Try.f10 Rows.fnExactDoAgreeRow.domain false) (Rows.fnExactDoAgreeSpec.post enc Try.prog Try.f10 false true false false) := by
  refine returnsInHanded_of_change (C := Try.checked) own started (by kernel_rfl) Try.func10
    (ChangeSpec.witness6 (enc := enc) (C := Try.checked) false ⟨#[], #[.agg #[.int .i64 0, .int .i64 0], .agg #[.int .i64 0, .int .i64 0, .int .i64 0, .int .i64 0]], []⟩ 8 (by kernel_rfl) (by kernel_rfl) (by kernel_rfl) (by kernel_rfl)) ?_
  intro W base args ds gs before hval0 hW hcnd _
  have hval : ∀ (j : Nat) t v, Try.f10.params[j]? = some t → args[j]? = some v → Value.okWide Try.prog W .any base t v := hval0
  have hW' := hW
  obtain ⟨p, q, hA0, hV, rfl, hfz, hnd⟩ := hW
  have hA : DataW.TrodAll enc Try.prog W 0 (fun _ => true) true Try.f10.params.toList args.toList ds p := hA0
  rw [Try.params10] at hA hval
  obtain ⟨v0, vs0, d0, ds0, p0, q0, hargs, rfl, rfl, h0, r0⟩ := trodAll_cons hA
  obtain ⟨v1, vs1, d1, ds1, p1, q1, rfl, rfl, rfl, h1, r1⟩ := trodAll_cons r0
  obtain ⟨rfl, rfl, rfl⟩ := trodAll_nil r1
  obtain rfl : args = #[v0, v1] := by cases args; simp_all
  obtain ⟨rfl, rfl⟩ := trodVars_none hV
  obtain ⟨c0_0, c0_1, y0_0, y0_1, m0, rfl, rfl, rfl, hy0_0, hy0_1⟩ := open_agg2 Try.underlying66 (by kernel_rfl) cells66 (hval 0 66 v0 rfl rfl) h0
  obtain ⟨a0x, e0_0, rfl, wa0x⟩ := DataW.trod_int Try.underlying2 hy0_0
  obtain ⟨a0y, e0_1, rfl, wa0y⟩ := DataW.trod_int Try.underlying2 hy0_1
  simp at e0_0 e0_1
  subst e0_0 e0_1
  obtain ⟨c1_0, c1_1, c1_2, c1_3, y1_0, y1_1, y1_2, y1_3, m1, rfl, rfl, rfl, hy1_0, hy1_1, hy1_2, hy1_3⟩ := open_agg4 Try.underlying62 (by kernel_rfl) cells62 (hval 1 62 v1 rfl rfl) h1
  obtain ⟨a1x, e1_0, rfl, wa1x⟩ := DataW.trod_int Try.underlying2 hy1_0
  obtain ⟨a1y, e1_1, rfl, wa1y⟩ := DataW.trod_int Try.underlying2 hy1_1
  obtain ⟨a1z, e1_2, rfl, wa1z⟩ := DataW.trod_int Try.underlying2 hy1_2
  obtain ⟨a1u, e1_3, rfl, wa1u⟩ := DataW.trod_int Try.underlying2 hy1_3
  simp at e1_0 e1_1 e1_2 e1_3
  subst e1_0 e1_1 e1_2 e1_3
  clear hA0 hval0
  simp only [List.append_nil] at hW'
  refine (walk a0x a0y a1x a1y a1z a1u wa0x wa0y wa1x wa1y wa1z wa1u W).mono fun e W' ⟨he, hg⟩ => ?_
  subst he
  exact ⟨_, rfl, _, _, _, [], [], [], hW', (trodAll_cons_mk (shut_bool Try.underlying4 _) trodAll_mk0), (trodAll_cons_mk (shut_agg2 (y0 := (.lit (.int .i64 a0x), [])) (y1 := (.lit (.int .i64 a0y), [])) Try.underlying66 (by kernel_rfl) cells66 ⟨1, by simp [DataW.trod, Try.underlying2, wa0x]⟩ ⟨1, by simp [DataW.trod, Try.underlying2, wa0y]⟩) (trodAll_cons_mk (shut_agg4 (y0 := (.lit (.int .i64 a1x), [])) (y1 := (.lit (.int .i64 a1y), [])) (y2 := (.lit (.int .i64 a1z), [])) (y3 := (.lit (.int .i64 a1u), [])) Try.underlying62 (by kernel_rfl) cells62 ⟨1, by simp [DataW.trod, Try.underlying2, wa1x]⟩ ⟨1, by simp [DataW.trod, Try.underlying2, wa1y]⟩ ⟨1, by simp [DataW.trod, Try.underlying2, wa1z]⟩ ⟨1, by simp [DataW.trod, Try.underlying2, wa1u]⟩) trodAll_mk0)), rfl, hg.frame _, fun h => by cases h⟩

theorem over : Rows.fnExactDoAgreeRow.holds Try.pinned (OpenSpec.ofChange Rows.fnExactDoAgreeSpec) :=
  OpenClaim.holds_of_wide 10 Try.f10 rfl rfl rfl rfl rfl rfl rfl ⟨rfl, rfl, rfl, rfl, rfl⟩ rfl rfl rfl rfl rfl (by kernel_rfl) Try.func10 (by kernel_rfl)
    (of_decide_eq_true (by kernel_rfl)) (by unfold Func.isWrapper; first | (rw [if_pos (by decide +kernel)]; kernel_rfl) | (rw [if_neg (by decide +kernel)]; exact ⟨rfl, rfl⟩))
    (fun os started H enc _ => lifted os started H enc)

theorem proved : Rows.FnExactDoAgreeSaid :=
  over
#print axioms proved
end Go.Proofs.Ytgckamlibbjgcaa.fnExactDoAgree
