/- Contracts of the walk: chapter 3's exported functions in impl. -/
import Derived.Test.YtgckamlibbjgcaaPadImpl
namespace Go.Proofs.Ytgckamlibbjgcaa
open Go.RowKit
set_option linter.unusedVariables false
set_option maxRecDepth 20000
set_option linter.unusedSimpArgs false
abbrev Q4 := Int × Int × Int × Int
abbrev A4 (x : Q4) : Array Value := P4 x.1 x.2.1 x.2.2.1 x.2.2.2
def resQ (p v u n : Int) : Q4 := if padB p v u n then (p, v, u, n) else (0, 0, 0, 0)
theorem resV_eq (p v u n : Int) : resV p v u n = A4 (resQ p v u n) := by
  unfold resV resQ; cases padB p v u n <;> rfl
theorem asResultQ_any (p v u n : Int) (w : World) :
    Calls Try.prog 75 #[.agg (P4 p v u n)] w fun e w' => e = .returned (.tuple #[.agg (A4 (resQ p v u n)), .int .i64 (limC p v u n)]) ∧ Below w.heap.size w w' := by
  rw [← resV_eq]; exact asResult_any p v u n w
def sumQ (p v u n q v' u' n' : Int) : Q4 := if twoC p v u n q v' u' n' = 0 then resQ p (addT p v u n v' u' n').1 (addT p v u n v' u' n').2.1 (addT p v u n v' u' n').2.2 else (0, 0, 0, 0)
def sumC (p v u n q v' u' n' : Int) : Int := if twoC p v u n q v' u' n' = 0 then limC p (addT p v u n v' u' n').1 (addT p v u n v' u' n').2.1 (addT p v u n v' u' n').2.2 else twoC p v u n q v' u' n'
def proQ (p v u n q v' u' n' : Int) : Q4 := if twoC p v u n q v' u' n' = 0 then resQ p (v + v') (mulU p u n u' n') (mulN n n') else (0, 0, 0, 0)
def proC (p v u n q v' u' n' : Int) : Int := if twoC p v u n q v' u' n' = 0 then limC p (v + v') (mulU p u n u' n') (mulN n n') else twoC p v u n q v' u' n'
theorem implAdd_any (p v u n q v' u' n' : Int) (w : World) :
    Calls Try.prog 42 #[.agg (P4 p v u n), .agg (P4 q v' u' n')] w fun e w' => e = .returned (.tuple #[.agg (A4 (sumQ p v u n q v' u' n')), .int .i64 (sumC p v u n q v' u' n')]) ∧ Below w.heap.size w w' := by
  by_cases hc : twoC p v u n q v' u' n' = 0
  · obtain ⟨h, h', rfl⟩ := twoC_zero hc
    have HC := Lib.hid hc
    have H := Lib.hid (And.intro h h')
    rw [show sumQ p v u n p v' u' n' = resQ p (addT p v u n v' u' n').1 (addT p v u n v' u' n').2.1 (addT p v u n v' u' n').2.2 by simp [sumQ, hc], show sumC p v u n p v' u' n' = limC p (addT p v u n v' u' n').1 (addT p v u n v' u' n').2.1 (addT p v u n v' u' n').2.2 by simp [sumC, hc]]
    clear hc h h'
    go_enter Try.func42, Try.ntmps42
    go_wp2_with (first | (go_at_call 73; refine (checkWith_any _ _ _ _ _ _ _ _ _).mono ?_; rw [HC.out]; rintro e wn ⟨rfl, hb⟩; (first | have K := k3_first hb | have K := k3_next K hb); obtain ⟨c0, c1, c2, c3⟩ := lies_four K.2.1; obtain ⟨d0, d1, d2, d3⟩ := lies_four K.2.2.1; obtain ⟨e0, e1, e2, e3⟩ := lies_four K.2.2.2; obtain ⟨ef0, ef1, ef2, ef3⟩ := lies_ice K.2.2.2) | (go_at_call 87; refine (plus_any _ _ _ _ _ _ _ _ H.out.1 H.out.2).mono ?_; rintro e wn ⟨rfl, hb⟩; (first | have K := k3_first hb | have K := k3_next K hb); obtain ⟨e0, e1, e2, e3⟩ := lies_four K.2.2.2; obtain ⟨ef0, ef1, ef2, ef3⟩ := lies_ice K.2.2.2) | (go_at_call 75; refine (asResultQ_any _ _ _ _ _).mono ?_; rintro e wn ⟨rfl, hb⟩; (first | have K := k3_first hb | have K := k3_next K hb); obtain ⟨e0, e1, e2, e3⟩ := lies_four K.2.2.2; obtain ⟨ef0, ef1, ef2, ef3⟩ := lies_ice K.2.2.2))
    refine bodyPost_ret (v := .tuple #[.agg (A4 (resQ p (addT p v u n v' u' n').1 (addT p v u n v' u' n').2.1 (addT p v u n v' u' n').2.2)), .int .i64 (limC p (addT p v u n v' u' n').1 (addT p v u n v' u' n').2.1 (addT p v u n v' u' n').2.2)]) (by simp [results, Try.results42, go_sem, e0, e1, e2, e3]) rfl ?_
    exact ⟨rfl, below_set4 K.1 (by omega)⟩
  · have hc' : (twoC p v u n q v' u' n' == 0) = false := by simpa using hc
    rw [show sumQ p v u n q v' u' n' = (0, 0, 0, 0) by simp [sumQ, hc], show sumC p v u n q v' u' n' = twoC p v u n q v' u' n' by simp [sumC, hc]]
    clear hc
    go_enter Try.func42, Try.ntmps42
    go_wp2_with (first | (go_at_call 73; refine (checkWith_any _ _ _ _ _ _ _ _ _).mono ?_; rintro e wn ⟨rfl, hb⟩; (first | have K := k3_first hb | have K := k3_next K hb); obtain ⟨c0, c1, c2, c3⟩ := lies_four K.2.1; obtain ⟨d0, d1, d2, d3⟩ := lies_four K.2.2.1; obtain ⟨e0, e1, e2, e3⟩ := lies_four K.2.2.2; obtain ⟨ef0, ef1, ef2, ef3⟩ := lies_ice K.2.2.2))
    refine bodyPost_ret (v := .tuple #[.agg (P4 0 0 0 0), .int .i64 (twoC p v u n q v' u' n')]) (by simp [results, Try.results42, go_sem, e0, e1, e2, e3]) rfl ?_
    exact ⟨rfl, below_set4 K.1 (by omega)⟩
theorem implMul_any (p v u n q v' u' n' : Int) (w : World) :
    Calls Try.prog 25 #[.agg (P4 p v u n), .agg (P4 q v' u' n')] w fun e w' => e = .returned (.tuple #[.agg (A4 (proQ p v u n q v' u' n')), .int .i64 (proC p v u n q v' u' n')]) ∧ Below w.heap.size w w' := by
  by_cases hc : twoC p v u n q v' u' n' = 0
  · obtain ⟨h, h', rfl⟩ := twoC_zero hc
    have HC := Lib.hid hc
    have H := Lib.hid (And.intro h h')
    rw [show proQ p v u n p v' u' n' = resQ p (v + v') (mulU p u n u' n') (mulN n n') by simp [proQ, hc], show proC p v u n p v' u' n' = limC p (v + v') (mulU p u n u' n') (mulN n n') by simp [proC, hc]]
    clear hc h h'
    go_enter Try.func25, Try.ntmps25
    go_wp2_with (first | (go_at_call 73; refine (checkWith_any _ _ _ _ _ _ _ _ _).mono ?_; rw [HC.out]; rintro e wn ⟨rfl, hb⟩; (first | have K := k3_first hb | have K := k3_next K hb); obtain ⟨c0, c1, c2, c3⟩ := lies_four K.2.1; obtain ⟨d0, d1, d2, d3⟩ := lies_four K.2.2.1; obtain ⟨e0, e1, e2, e3⟩ := lies_four K.2.2.2; obtain ⟨ef0, ef1, ef2, ef3⟩ := lies_ice K.2.2.2) | (go_at_call 74; refine (times_any _ _ _ _ _ _ _ _ H.out.1 H.out.2).mono ?_; rintro e wn ⟨rfl, hb⟩; (first | have K := k3_first hb | have K := k3_next K hb); obtain ⟨e0, e1, e2, e3⟩ := lies_four K.2.2.2; obtain ⟨ef0, ef1, ef2, ef3⟩ := lies_ice K.2.2.2) | (go_at_call 75; refine (asResultQ_any _ _ _ _ _).mono ?_; rintro e wn ⟨rfl, hb⟩; (first | have K := k3_first hb | have K := k3_next K hb); obtain ⟨e0, e1, e2, e3⟩ := lies_four K.2.2.2; obtain ⟨ef0, ef1, ef2, ef3⟩ := lies_ice K.2.2.2))
    refine bodyPost_ret (v := .tuple #[.agg (A4 (resQ p (v + v') (mulU p u n u' n') (mulN n n'))), .int .i64 (limC p (v + v') (mulU p u n u' n') (mulN n n'))]) (by simp [results, Try.results25, go_sem, e0, e1, e2, e3]) rfl ?_
    exact ⟨rfl, below_set4 K.1 (by omega)⟩
  · have hc' : (twoC p v u n q v' u' n' == 0) = false := by simpa using hc
    rw [show proQ p v u n q v' u' n' = (0, 0, 0, 0) by simp [proQ, hc], show proC p v u n q v' u' n' = twoC p v u n q v' u' n' by simp [proC, hc]]
    clear hc
    go_enter Try.func25, Try.ntmps25
    go_wp2_with (first | (go_at_call 73; refine (checkWith_any _ _ _ _ _ _ _ _ _).mono ?_; rintro e wn ⟨rfl, hb⟩; (first | have K := k3_first hb | have K := k3_next K hb); obtain ⟨c0, c1, c2, c3⟩ := lies_four K.2.1; obtain ⟨d0, d1, d2, d3⟩ := lies_four K.2.2.1; obtain ⟨e0, e1, e2, e3⟩ := lies_four K.2.2.2; obtain ⟨ef0, ef1, ef2, ef3⟩ := lies_ice K.2.2.2))
    refine bodyPost_ret (v := .tuple #[.agg (P4 0 0 0 0), .int .i64 (twoC p v u n q v' u' n')]) (by simp [results, Try.results25, go_sem, e0, e1, e2, e3]) rfl ?_
    exact ⟨rfl, below_set4 K.1 (by omega)⟩
def negQ (p v u n : Int) : Q4 := if padB p v u n then (p, v, negU p u n, n) else (0, 0, 0, 0)
def negC (p v u n : Int) : Int := if padB p v u n then 0 else 1
def endV (p v u n : Int) : Int := if padB p v u n then v + n else 0
theorem implEnd_any (p v u n : Int) (w : World) :
    Calls Try.prog 34 #[.agg (P4 p v u n)] w fun e w' => e = .returned (.tuple #[.int .i64 (endV p v u n), .int .i64 (negC p v u n)]) ∧ Below w.heap.size w w' := by
  cases hx : padB p v u n
  · rw [show endV p v u n = 0 by simp [endV, hx], show negC p v u n = 1 by simp [negC, hx]]
    go_enter Try.func34, Try.ntmps34
    go_wp2_with (first | (go_at_call 80; refine (isValid_any _ _ _ _ _).mono ?_; rintro e wn ⟨rfl, hb⟩; (first | have K := k1_first hb | have K := k1_next K hb); obtain ⟨c0, c1, c2, c3⟩ := lies_four K.2))
    go_ret2
    exact ⟨rfl, K.1⟩
  · rw [show endV p v u n = v + n by simp [endV, hx], show negC p v u n = 0 by simp [negC, hx]]
    have hk := padB_ok hx
    obtain ⟨_, _, hn0, hn1, _⟩ := pok_bd hk
    have hv0 := hk.2.1
    have hv1 := hk.2.2.1
    clear hk
    go_enter Try.func34, Try.ntmps34
    go_wp2_with (first | (go_at_call 80; refine (isValid_any _ _ _ _ _).mono ?_; rintro e wn ⟨rfl, hb⟩; (first | have K := k1_first hb | have K := k1_next K hb); obtain ⟨c0, c1, c2, c3⟩ := lies_four K.2) | (go_at_call 89; refine (end_any _ _ _ _ _ (by omega) (by omega) (by omega) (by omega)).mono ?_; rintro e wn ⟨rfl, hb⟩; (first | have K := k1_first hb | have K := k1_next K hb); obtain ⟨c0, c1, c2, c3⟩ := lies_four K.2))
    go_ret2
    exact ⟨rfl, K.1⟩
end Go.Proofs.Ytgckamlibbjgcaa
