/- Contracts of the walk: chapter 3's methods in impl: the end, the codes of two numbers, the result, sums, opposites and products. -/
import Derived.Test.YtmkelfkbbdfjdaaPadKeep
import Derived.StillTailTactics
namespace Go.Proofs.Ytmkelfkbbdfjdaa
open Go.RowKit
set_option linter.unusedVariables false
set_option maxRecDepth 20000
theorem twoC_left {p v u n q v' u' n' : Int} (h : padB p v u n = false) : twoC p v u n q v' u' n' = 1 := by simp [twoC, h]
theorem twoC_right {p v u n q v' u' n' : Int} (h : padB q v' u' n' = false) : twoC p v u n q v' u' n' = 1 := by simp [twoC, h]
/-- a number that comes back, or the code that it is not valid -/
def resV (p v u n : Int) : Array Value := if padB p v u n then P4 p v u n else P4 0 0 0 0
def limC (p v u n : Int) : Int := if padB p v u n then 0 else 3
theorem asResult_any (p v u n : Int) (w : World) :
    Calls Try.prog 37 #[.agg (P4 p v u n)] w fun e w' => e = .returned (.tuple #[.agg (resV p v u n), .int .i64 (limC p v u n)]) ∧ Below w.heap.size w w' := by
  cases hx : padB p v u n
  · rw [show resV p v u n = P4 0 0 0 0 by simp [resV, hx], show limC p v u n = 3 by simp [limC, hx]]
    go_enter Try.func37, Try.ntmps37
    go_wp2_with (first | (go_at_call 26; refine (isValid_any _ _ _ _ _).mono ?_; rintro e wn ⟨rfl, hb⟩; (first | have K := k2_first hb | have K := k2_next K hb); obtain ⟨c0, c1, c2, c3⟩ := lies_four K.2.1; obtain ⟨d0, d1, d2, d3⟩ := lies_four K.2.2; obtain ⟨df0, df1, df2, df3⟩ := lies_ice K.2.2))
    refine bodyPost_ret (v := .tuple #[.agg (P4 0 0 0 0), .int .i64 3]) (by simp [results, Try.results37, go_sem, d0, d1, d2, d3]) rfl ?_
    exact ⟨rfl, below_set4 K.1 (by omega)⟩
  · rw [show resV p v u n = P4 p v u n by simp [resV, hx], show limC p v u n = 0 by simp [limC, hx]]
    go_enter Try.func37, Try.ntmps37
    go_wp2_with (first | (go_at_call 26; refine (isValid_any _ _ _ _ _).mono ?_; rintro e wn ⟨rfl, hb⟩; (first | have K := k2_first hb | have K := k2_next K hb); obtain ⟨c0, c1, c2, c3⟩ := lies_four K.2.1; obtain ⟨d0, d1, d2, d3⟩ := lies_four K.2.2; obtain ⟨df0, df1, df2, df3⟩ := lies_ice K.2.2))
    refine bodyPost_ret (v := .tuple #[.agg (P4 p v u n), .int .i64 0]) (by simp [results, Try.results37, go_sem, d0, d1, d2, d3]) rfl ?_
    exact ⟨rfl, below_set4 K.1 (by omega)⟩
theorem remainder1_any (x m : Int) (w : World) (h1 : 1 ≤ m) (h2 : m ≤ 1000000000) :
    Calls Try.prog 113 #[.int .i64 x, .int .i64 m] w fun e w' => e = .returned (.int .i64 (x % m)) ∧ w = w' := by
  have hm : (m == 0) = false := by simp; omega
  have hb := tmod_bd (x := x) (show 0 < m by omega)
  by_cases h : x.tmod m < 0
  · have HE := Lib.hid (rem_neg (by omega) h)
    go_enter Try.func113, Try.ntmps113
    go_wp2
    go_ret
    exact ⟨ret_int HE.out, rfl⟩
  · have HE := Lib.hid (rem_pos (by omega) h)
    go_enter Try.func113, Try.ntmps113
    go_wp2
    go_ret
    exact ⟨ret_int HE.out, rfl⟩
/-- the product -/
def mulN (n n' : Int) : Int := min n n'
def mulU (p u n u' n' : Int) : Int := u * u' % pw p (mulN n n')
/-- the number with an end: p to the power of v times r -/
def numT (p v r e : Int) : Int × Int × Int := if r = 0 then (e, 0, 0) else (v + valCount r p, valRest r p, e - (v + valCount r p))
theorem add0_num (p v u n v' u' n' : Int) : add0 p v u n v' u' n' = numT p v (addR p v u n v' u' n') (addE v n v' n') := rfl
theorem numEnd_any (p v r e : Int) (w : World) (hp2 : 2 ≤ p) (hr : r.natAbs ≤ 1000000000000) (hv0 : -1000 ≤ v) (hv1 : v ≤ 1000) (he0 : -1000 ≤ e) (he1 : e ≤ 1000) :
    Calls Try.prog 59 #[.int .i64 p, .int .i64 v, .int .i64 r, .int .i64 e] w fun x w' => x = .returned (.agg (P4 p (numT p v r e).1 (numT p v r e).2.1 (numT p v r e).2.2)) ∧ Below w.heap.size w w' := by
  by_cases h0 : r = 0
  · have HT := Lib.hid (show numT p v r e = (e, 0, 0) by simp [numT, h0])
    have h0' : (r == 0) = true := by simpa using h0
    rw [HT.out]
    clear h0
    go_enter Try.func59, Try.ntmps59
    go_wp2_with (first | (go_at_call 58; refine (zeroAt_any _ _ _).mono ?_; rintro e5 w5 ⟨rfl, hb⟩; have K := k1_first hb; obtain ⟨c0, c1, c2, c3⟩ := lies_four K.2; obtain ⟨cf0, cf1, cf2, cf3⟩ := lies_ice K.2))
    refine bodyPost_ret (v := .agg (P4 p e 0 0)) (by simp [results, Try.results59, go_sem, c0, c1, c2, c3]) rfl ?_
    exact ⟨rfl, below_set4 K.1 (by omega)⟩
  · obtain ⟨_, _, k0, k1⟩ := pad_val hp2 h0 hr
    have HT := Lib.hid (show numT p v r e = (v + valCount r p, valRest r p, e - (v + valCount r p)) by simp [numT, h0])
    have HD := divideOut_any r p
    rw [HT.out]
    generalize valCount r p = k at *
    generalize valRest r p = q at *
    replace HD := Lib.hid fun w => HD w hp2 h0 hr
    have h0' : (r == 0) = false := by simpa using h0
    clear h0 hr
    go_enter Try.func59, Try.ntmps59
    go_wp2_with (first | (go_at_call 69; refine (HD.out _).mono ?_; rintro e wn ⟨rfl, rfl⟩))
    refine bodyPost_ret (v := .agg (P4 p (v + k) q (e - (v + k)))) (by simp [results, Try.results59, go_sem]) rfl ?_
    exact ⟨rfl, below_a1 w _⟩
/-- three blocks, two of which hold numbers that are read -/
abbrev SP (w : World) (p v u n q v' u' n' : Int) (w1 : World) : Prop :=
  K3 w (P4 p v u n) (P4 q v' u' n') (P4 0 0 0 0) w1 ∧ w1.cell? ⟨w.heap.size, 0, none⟩ = some (.int .i64 p) ∧ w1.cell? ⟨w.heap.size, 1, none⟩ = some (.int .i64 v) ∧ w1.cell? ⟨w.heap.size, 2, none⟩ = some (.int .i64 u) ∧ w1.cell? ⟨w.heap.size, 3, none⟩ = some (.int .i64 n) ∧
  w1.cell? ⟨w.heap.size + 1, 0, none⟩ = some (.int .i64 q) ∧ w1.cell? ⟨w.heap.size + 1, 1, none⟩ = some (.int .i64 v') ∧ w1.cell? ⟨w.heap.size + 1, 2, none⟩ = some (.int .i64 u') ∧ w1.cell? ⟨w.heap.size + 1, 3, none⟩ = some (.int .i64 n')
theorem sp_of {w : World} {p v u n q v' u' n' : Int} {w1 : World} (K : K3 w (P4 p v u n) (P4 q v' u' n') (P4 0 0 0 0) w1) : SP w p v u n q v' u' n' w1 := by
  obtain ⟨c0, c1, c2, c3⟩ := lies_four K.2.1
  obtain ⟨d0, d1, d2, d3⟩ := lies_four K.2.2.1
  exact ⟨K, c0, c1, c2, c3, d0, d1, d2, d3⟩
theorem sp_next {w : World} {p v u n q v' u' n' : Int} {w1 w2 : World} (h : SP w p v u n q v' u' n' w1) (hb : Below w1.heap.size w1 w2) : SP w p v u n q v' u' n' w2 := sp_of (k3_next h.1 hb)
theorem k3_drewN {w w1 : World} {a b c : Array Value} (h : K3 w a b c w1) (k : Nat) : K3 w a b c (w1.drewN k) := ⟨below_drewN h.1 k, h.2⟩
theorem k3_swap {w W : World} {a0 a1 a2 a3 b0 b1 b2 b3 : Value} {c : Array Value} (K : K3 w #[a0, a1, a2, a3] #[b0, b1, b2, b3] c W) :
    K3 w #[b0, b1, b2, b3] #[a0, a1, a2, a3] c ((((((((W.setCell ⟨w.heap.size, 0, none⟩ b0).setCell ⟨w.heap.size, 1, none⟩ b1).setCell ⟨w.heap.size, 2, none⟩ b2).setCell ⟨w.heap.size, 3, none⟩ b3).setCell ⟨w.heap.size + 1, 0, none⟩ a0).setCell ⟨w.heap.size + 1, 1, none⟩ a1).setCell ⟨w.heap.size + 1, 2, none⟩ a2).setCell ⟨w.heap.size + 1, 3, none⟩ a3) :=
  ⟨below_set4 (below_set4 K.1 (by omega)) (by omega), lies_other4 (lies_set4 K.2.1) (by omega), lies_set4 (lies_other4 K.2.2.1 (by omega)), lies_other4 (lies_other4 K.2.2.2 (by omega)) (by omega)⟩
end Go.Proofs.Ytmkelfkbbdfjdaa
