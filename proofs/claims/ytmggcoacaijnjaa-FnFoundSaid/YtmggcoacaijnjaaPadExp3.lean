/- Contracts of the walk: chapter 3's exported functions in impl: places of equality, digits, and numbers made of integers. -/
import Derived.Test.YtmggcoacaijnjaaPadExp2
namespace Go.Proofs.Ytmggcoacaijnjaa
open Go.RowKit
set_option linter.unusedVariables false
set_option maxRecDepth 20000
set_option linter.unusedSimpArgs false
/-- two blocks that hold numbers that are read -/
abbrev SR (w : World) (p v u n q v' u' n' : Int) (w1 : World) : Prop :=
  K2 w (P4 p v u n) (P4 q v' u' n') w1 ∧ w1.cell? ⟨w.heap.size, 0, none⟩ = some (.int .i64 p) ∧ w1.cell? ⟨w.heap.size, 1, none⟩ = some (.int .i64 v) ∧ w1.cell? ⟨w.heap.size, 2, none⟩ = some (.int .i64 u) ∧ w1.cell? ⟨w.heap.size, 3, none⟩ = some (.int .i64 n) ∧
  w1.cell? ⟨w.heap.size + 1, 0, none⟩ = some (.int .i64 q) ∧ w1.cell? ⟨w.heap.size + 1, 1, none⟩ = some (.int .i64 v') ∧ w1.cell? ⟨w.heap.size + 1, 2, none⟩ = some (.int .i64 u') ∧ w1.cell? ⟨w.heap.size + 1, 3, none⟩ = some (.int .i64 n')
theorem sr_of {w : World} {p v u n q v' u' n' : Int} {w1 : World} (K : K2 w (P4 p v u n) (P4 q v' u' n') w1) : SR w p v u n q v' u' n' w1 := by
  obtain ⟨c0, c1, c2, c3⟩ := lies_four K.2.1
  obtain ⟨d0, d1, d2, d3⟩ := lies_four K.2.2
  exact ⟨K, c0, c1, c2, c3, d0, d1, d2, d3⟩
theorem sr_next {w : World} {p v u n q v' u' n' : Int} {w1 w2 : World} (h : SR w p v u n q v' u' n' w1) (hb : Below w1.heap.size w1 w2) : SR w p v u n q v' u' n' w2 := sr_of (k2_next h.1 hb)
theorem k2_alloc {w w1 : World} {a b : Array Value} (h : K2 w a b w1) (o : Obj) : K2 w a b (w1.alloc o) := k2_next h (below_a1 w1 o)
theorem sr_set {w : World} {p v u n q v' u' n' : Int} {w1 : World} {b : Nat} (h : SR w p v u n q v' u' n' w1) (x0 x1 x2 x3 : Value) (hb : w.heap.size + 1 < b) :
    SR w p v u n q v' u' n' ((((w1.setCell ⟨b, 0, none⟩ x0).setCell ⟨b, 1, none⟩ x1).setCell ⟨b, 2, none⟩ x2).setCell ⟨b, 3, none⟩ x3) :=
  sr_of ⟨below_set4 h.1.1 (by omega), lies_other4 h.1.2.1 (by omega), lies_other4 h.1.2.2 (by omega)⟩
theorem sr_alloc {w : World} {p v u n q v' u' n' : Int} {w1 : World} (h : SR w p v u n q v' u' n' w1) (o : Obj) : SR w p v u n q v' u' n' (w1.alloc o) := sr_of (k2_alloc h.1 o)
theorem implMake_any (p m k : Int) (w : World) :
    Calls Try.prog 104 #[.int .i64 p, .int .i64 m, .int .i64 k] w fun e w' => e = .returned (.tuple #[.agg (A4 (madeQ p m k)), .int .i64 (madeC p m k)]) ∧ Below w.heap.size w w' := by
  by_cases h0 : ringM p k = 0
  · have HC := Lib.hid (show ringC p k = 1 by simp [ringC, h0])
    rw [show madeQ p m k = (0, 0, 0, 0) by simp [madeQ, h0], show madeC p m k = 1 by simp [madeC, h0]]
    clear h0
    go_enter Try.func104, Try.ntmps104
    go_wp2_with (first | (go_at_call 103; refine (checkNil_any _ _ _).mono ?_; rw [HC.out]; rintro e wn ⟨rfl, hb⟩; (first | have K := k2_first hb | have K := k2_next K hb); obtain ⟨c0, c1, c2, c3⟩ := lies_four K.2.1; obtain ⟨cf0, cf1, cf2, cf3⟩ := lies_ice K.2.1; obtain ⟨d0, d1⟩ := lies_pair K.2.2))
    refine bodyPost_ret (v := .tuple #[.agg (P4 0 0 0 0), .int .i64 1]) (by simp [results, Try.results104, go_sem, c0, c1, c2, c3]) rfl ?_
    exact ⟨rfl, below_set4 K.1 (by omega)⟩
  · have HC := Lib.hid (show ringC p k = 0 by simp [ringC, h0])
    obtain ⟨hp2, hp97, hk1, hk2, hm1, hm2, _⟩ := ringM_bd h0
    cases hv : valueB m
    · rw [show madeQ p m k = (0, 0, 0, 0) by simp [madeQ, hv], show madeC p m k = 2 by simp [madeC, h0, hv]]
      clear h0
      go_enter Try.func104, Try.ntmps104
      go_wp2_with (first | (go_at_call 103; refine (checkNil_any _ _ _).mono ?_; rw [HC.out]; rintro e wn ⟨rfl, hb⟩; (first | have K := k2_first hb | have K := k2_next K hb); obtain ⟨c0, c1, c2, c3⟩ := lies_four K.2.1; obtain ⟨cf0, cf1, cf2, cf3⟩ := lies_ice K.2.1; obtain ⟨d0, d1⟩ := lies_pair K.2.2) | (go_at_call 75; refine (isValue_any _ _).mono ?_; rintro e wn ⟨rfl, rfl⟩))
      refine bodyPost_ret (v := .tuple #[.agg (P4 0 0 0 0), .int .i64 2]) (by simp [results, Try.results104, go_sem, c0, c1, c2, c3]) rfl ?_
      exact ⟨rfl, below_set4 K.1 (by omega)⟩
    · by_cases hm : m = 0
      · subst hm
        rw [show madeQ p 0 k = (0, 0, 0, 0) by simp [madeQ], show madeC p 0 k = 2 by simp [madeC, h0]]
        clear h0
        go_enter Try.func104, Try.ntmps104
        go_wp2_with (first | (go_at_call 103; refine (checkNil_any _ _ _).mono ?_; rw [HC.out]; rintro e wn ⟨rfl, hb⟩; (first | have K := k2_first hb | have K := k2_next K hb); obtain ⟨c0, c1, c2, c3⟩ := lies_four K.2.1; obtain ⟨cf0, cf1, cf2, cf3⟩ := lies_ice K.2.1; obtain ⟨d0, d1⟩ := lies_pair K.2.2) | (go_at_call 75; refine (isValue_any _ _).mono ?_; rintro e wn ⟨rfl, rfl⟩))
        refine bodyPost_ret (v := .tuple #[.agg (P4 0 0 0 0), .int .i64 2]) (by simp [results, Try.results104, go_sem, c0, c1, c2, c3]) rfl ?_
        exact ⟨rfl, below_set4 K.1 (by omega)⟩
      · have hm' : (m == 0) = false := by simpa using hm
        have hvb := valueB_bd hv
        have HD := Lib.hid fun w => divideOut_any m p w hp2 hm (by omega)
        have HR := Lib.hid fun x w => remainder1_any x (ringM p k) w (by omega) hm2
        rw [show madeQ p m k = (p, valCount m p, valRest m p % ringM p k, k) by simp [madeQ, h0, hv, hm], show madeC p m k = 0 by simp [madeC, h0, hv, hm]]
        clear h0 hm
        go_enter Try.func104, Try.ntmps104
        go_wp2_with (first | (go_at_call 103; refine (checkNil_any _ _ _).mono ?_; rw [HC.out]; rintro e wn ⟨rfl, hb⟩; (first | have K := k2_first hb | have K := k2_next K hb); obtain ⟨c0, c1, c2, c3⟩ := lies_four K.2.1; obtain ⟨cf0, cf1, cf2, cf3⟩ := lies_ice K.2.1; obtain ⟨d0, d1⟩ := lies_pair K.2.2) | (go_at_call 75; refine (isValue_any _ _).mono ?_; rintro e wn ⟨rfl, rfl⟩) | (go_at_call 98; refine (HD.out _).mono ?_; rintro e wn ⟨rfl, rfl⟩) | (go_at_call 88; refine (implModulus_any _ _ _).mono ?_; rintro e wn ⟨rfl, hb⟩; (first | have K := k2_first hb | have K := k2_next K hb); obtain ⟨c0, c1, c2, c3⟩ := lies_four K.2.1; obtain ⟨cf0, cf1, cf2, cf3⟩ := lies_ice K.2.1; obtain ⟨d0, d1⟩ := lies_pair K.2.2) | (go_at_call 118; refine (HR.out _ _).mono ?_; rintro e wn ⟨rfl, rfl⟩))
        refine bodyPost_ret (v := .tuple #[.agg (P4 p (valCount m p) (valRest m p % ringM p k) k), .int .i64 0]) (by simp [results, Try.results104, go_sem, c0, c1, c2, c3]) rfl ?_
        exact ⟨rfl, below_set4 K.1 (by omega)⟩
end Go.Proofs.Ytmggcoacaijnjaa
