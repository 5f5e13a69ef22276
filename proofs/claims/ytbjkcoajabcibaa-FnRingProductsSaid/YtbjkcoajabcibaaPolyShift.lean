/- Plain mathematics of chapter 6: a shifted polynomial, pass by pass, has the values of the polynomial at shifted places, and can be shifted back. -/
import Derived.Test.YtbjkcoajabcibaaPolyEval
namespace Go.Proofs.Ytbjkcoajabcibaa
set_option linter.unusedVariables false
set_option maxRecDepth 20000
/-- synthetic division -/
theorem synth {c B : Nat → Int} {a y : Int} {m : Nat} (h : ∀ i, i < m → c i = B i + -a * B (i + 1)) (hm : B m = 0) : pv c y m = B 0 + (y - a) * pv (fun i => B (i + 1)) y m := by
  rw [pv_congr h, pv_add]
  have e : pv B y (m + 1) = pv B y m := by show pv B y m + B m * y ^ m = _; rw [hm]; simp
  rw [← e, pv_shift]
  rw [Int.sub_mul, Int.neg_mul]; omega
/-- k passes of a shift -/
def shiftP (f : List Int) (a : Int) : Nat → List Int
  | 0 => f
  | k + 1 => tabL f.length fun i => if i < k then (shiftP f a k).getD i 0 else evalD (shiftP f a k) a (f.length - i)
theorem shiftP_length (f : List Int) (a : Int) : ∀ k, (shiftP f a k).length = f.length
  | 0 => rfl
  | k + 1 => tabL_length _ _
def shiftL (f : List Int) (a : Int) : List Int := shiftP f a f.length
theorem shiftL_length (f : List Int) (a : Int) : (shiftL f a).length = f.length := shiftP_length _ _ _
def shW (l : List Int) (x y : Int) (n k : Nat) : Int := pv (fun i => l.getD i 0) x k + x ^ k * pv (fun i => l.getD (k + i) 0) y (n - k)
theorem shW_step (f : List Int) (a x : Int) {k : Nat} (hk : k < f.length) : shW (shiftP f a (k + 1)) x (x + a) f.length (k + 1) = shW (shiftP f a k) x (x + a) f.length k := by
  have hl := shiftP_length f a k
  have g : ∀ i, i < f.length → (shiftP f a (k + 1)).getD i 0 = if i < k then (shiftP f a k).getD i 0 else evalD (shiftP f a k) a (f.length - i) := fun i hi => tabL_getD hi
  generalize shiftP f a k = l at *
  generalize shiftP f a (k + 1) = l' at *
  generalize hn : f.length = n at *
  have hB := synth (c := fun i => l.getD (k + i) 0) (B := fun i => evalD l a (n - k - i)) (a := a) (y := x + a) (m := n - k)
    (fun i hi => by
      show _ = evalD l a (n - k - i) + -a * evalD l a (n - k - (i + 1))
      rw [show n - k - i = (n - k - (i + 1)) + 1 by omega, evalD, hl, show n - 1 - (n - k - (i + 1)) = k + i by omega, Int.mul_comm (-a), Int.mul_neg]; omega)
    (by show evalD l a (n - k - (n - k)) = 0; rw [Nat.sub_self]; rfl)
  unfold shW
  rw [hB]
  have e1 : pv (fun i => l'.getD i 0) x (k + 1) = pv (fun i => l.getD i 0) x k + evalD l a (n - k) * x ^ k := by
    show pv (fun i => l'.getD i 0) x k + l'.getD k 0 * x ^ k = _
    rw [g k hk, if_neg (by omega)]
    congr 1
    exact pv_congr fun i hi => by rw [g i (by omega), if_pos hi]
  have e2 : pv (fun i => l'.getD (k + 1 + i) 0) (x + a) (n - (k + 1)) = pv (fun i => evalD l a (n - k - (i + 1))) (x + a) (n - k) := by
    rw [show n - k = n - (k + 1) + 1 by omega]
    show _ = pv _ _ (n - (k + 1)) + evalD l a (n - (k + 1) + 1 - (n - (k + 1) + 1)) * _
    rw [Nat.sub_self, show evalD l a 0 = 0 from rfl, Int.zero_mul, Int.add_zero]
    exact pv_congr fun i hi => by rw [g (k + 1 + i) (by omega), if_neg (by omega)]; congr 1; omega
  rw [e1, e2, Int.pow_succ, show x + a - a = x by omega, show n - k - 0 = n - k from rfl]
  show _ = _ + x ^ k * (evalD l a (n - k) + x * pv (fun i => evalD l a (n - k - (i + 1))) (x + a) (n - k))
  rw [Int.mul_add, Int.mul_comm (evalD l a (n - k)), Int.mul_assoc]; omega
theorem shW_all (f : List Int) (a x : Int) : ∀ k, k ≤ f.length → shW (shiftP f a k) x (x + a) f.length k = pval f (x + a)
  | 0, _ => by
    show pv _ x 0 + x ^ 0 * pv (fun i => f.getD (0 + i) 0) (x + a) (f.length - 0) = _
    rw [Int.pow_zero, Int.one_mul, show pv (fun i => (shiftP f a 0).getD i 0) x 0 = 0 from rfl, Int.zero_add]
    exact pv_congr fun i _ => by rw [Nat.zero_add]
  | k + 1, h => by rw [shW_step f a x (by omega), shW_all f a x k (by omega)]
theorem pval_shift (f : List Int) (a x : Int) : pval (shiftL f a) x = pval f (x + a) := by
  have h := shW_all f a x f.length (Nat.le_refl _)
  unfold shW at h
  rw [Nat.sub_self, show pv (fun i => (shiftP f a f.length).getD (f.length + i) 0) (x + a) 0 = 0 from rfl, Int.mul_zero, Int.add_zero] at h
  rw [pval_upto (shiftL f a) x (Nat.le_of_eq (shiftL_length f a))]
  exact h
theorem shiftP_last (f : List Int) (a : Int) : ∀ k, (shiftP f a k).getD (f.length - 1) 0 = f.getD (f.length - 1) 0
  | 0 => rfl
  | k + 1 => by
    by_cases h0 : f.length = 0
    · rw [getD_out (by rw [shiftP_length]; omega), getD_out (by omega)]
    · show (tabL f.length _).getD _ 0 = _
      rw [tabL_getD (by omega)]
      split
      · exact shiftP_last f a k
      · rw [show f.length - (f.length - 1) = 0 + 1 by omega, evalD, show evalD (shiftP f a k) a 0 = 0 from rfl, Int.zero_mul, Int.zero_add, shiftP_length]
        exact shiftP_last f a k
theorem shiftL_lastB {f : List Int} (a : Int) (h : lastB f = true) : lastB (shiftL f a) = true := by
  unfold lastB at h ⊢
  rw [shiftL_length]
  unfold shiftL
  rw [shiftP_last]; exact h
theorem list_bd : ∀ l : List Int, ∃ B : Int, 0 ≤ B ∧ ∀ i, -B ≤ l.getD i 0 ∧ l.getD i 0 ≤ B
  | [] => ⟨0, Int.le_refl _, fun i => by simp⟩
  | a :: l => by
    obtain ⟨B, h0, h⟩ := list_bd l
    refine ⟨B + a.natAbs, by omega, fun i => ?_⟩
    cases i with
    | zero => show -_ ≤ a ∧ a ≤ _; omega
    | succ i => have := h i; show -_ ≤ l.getD i 0 ∧ l.getD i 0 ≤ _; omega
/-- two polynomials with the same values are one -/
theorem pval_ext {l m : List Int} (h1 : lastB l = true) (h2 : lastB m = true) (h : ∀ x, pval l x = pval m x) : l = m := by
  obtain ⟨B, p1, b1⟩ := list_bd l
  obtain ⟨C, p2, b2⟩ := list_bd m
  exact pval_unique (B := B + C) (x := 2 * (B + C) + 1) h1 h2 (fun i => by have := b1 i; omega) (fun i => by have := b2 i; omega) (by omega) (h _)
theorem shift_back {f : List Int} (a : Int) (h : lastB f = true) : shiftL (shiftL f a) (-a) = f :=
  pval_ext (shiftL_lastB _ (shiftL_lastB _ h)) h fun x => by rw [pval_shift, pval_shift]; congr 1; omega
end Go.Proofs.Ytbjkcoajabcibaa
