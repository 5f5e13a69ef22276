/- Plain mathematics of factoring by trial division: the list of prime powers that both FactorOf answer, and what holds at the head of each round. Conditions: n from 1 to 1000000. -/
import Derived.Test.YtbjkcoajabcibaaValMath
namespace Go.Proofs.Ytbjkcoajabcibaa
open Go.RowKit
set_option linter.unusedVariables false
/-- the cells of a list of prime powers -/
def pc (l : List (Int × Int)) : List Value := l.flatMap fun p => [.int .i64 p.1, .int .i64 p.2]
theorem pc_nil : pc [] = [] := rfl
theorem pc_snoc (l : List (Int × Int)) (a b : Int) : pc (l ++ [(a, b)]) = pc l ++ [.int .i64 a, .int .i64 b] := by simp [pc]
theorem pc_length (l : List (Int × Int)) : (pc l).length = l.length * 2 := by
  induction l with
  | nil => rfl
  | cons p l ih => simp only [pc, List.flatMap_cons, List.length_append, List.length_cons] at ih ⊢; simp at ih ⊢; omega
theorem pc_get (l : List (Int × Int)) (k : Nat) (h : k < l.length) : (pc l)[k * 2]? = some (.int .i64 (l.getD k (0, 0)).1) ∧ (pc l)[k * 2 + 1]? = some (.int .i64 (l.getD k (0, 0)).2) := by
  induction l generalizing k with
  | nil => simp at h
  | cons p l ih =>
    have e : pc (p :: l) = .int .i64 p.1 :: .int .i64 p.2 :: pc l := by simp [pc]
    rw [e]
    match k with
    | 0 => exact ⟨rfl, rfl⟩
    | k + 1 =>
      have := ih k (by simpa using h)
      rw [show (k + 1) * 2 = k * 2 + 1 + 1 by omega]
      simpa using this
def fF : Nat → Int → Int → List (Int × Int) → List (Int × Int) × Int
  | 0, n, _, acc => (acc, n)
  | f + 1, n, d, acc => if d * d ≤ n then fF f (valRest n d) (d + 1) (if 0 < valCount n d then acc ++ [(d, valCount n d)] else acc) else (acc, n)
def factT (n : Int) : List (Int × Int) := if 1 < (fF 1000 n 2 []).2 then (fF 1000 n 2 []).1 ++ [((fF 1000 n 2 []).2, 1)] else (fF 1000 n 2 []).1
def FRel (n m : Int) (d : Nat) (acc : List (Int × Int)) : Prop :=
  1 ≤ m ∧ m ≤ 1000000 ∧ 2 ≤ d ∧ d ≤ 1001 ∧ acc.length ≤ d ∧ ∃ f, 1002 ≤ f + d ∧ fF f m d acc = fF 1000 n 2 []
theorem vT_zero {n p : Int} (h : n.tmod p ≠ 0) : valCount n p = 0 ∧ valRest n p = n := by
  have e : vT n p = (0, n) := by
    unfold vT
    cases n.natAbs <;> simp [vF, h]
  simp [valCount, valRest, e]
theorem vT_props {n p : Int} (hp : 2 ≤ p) (h0 : 1 ≤ n) (h1 : n ≤ 1000000) : 1 ≤ valRest n p ∧ valRest n p ≤ n ∧ 0 ≤ valCount n p ∧ (valCount n p = 0 → valRest n p = n) := by
  have key : ∀ (f : Nat) (m c : Int), VRel n p m c → m ≤ n → m.natAbs ≤ f → 1 ≤ valRest n p ∧ valRest n p ≤ n ∧ 0 ≤ valCount n p := by
    intro f
    induction f with
    | zero => intro m c h _ hf; have := h.1; omega
    | succ f ih =>
      intro m c h hmn hf
      by_cases hm : m.tmod p = 0
      · obtain ⟨h2, h3⟩ := vRel_step hp h hm
        have h4 := h2.2.2.2.2.1 (by omega)
        have h5 := h.2.2.2.2.1 (by omega)
        exact ih _ _ h2 (by omega) (by omega)
      · obtain ⟨e1, e2⟩ := vRel_end h hm
        have h5 := h.2.2.2.2.1 (by omega)
        have h6 := h.2.1
        exact ⟨by omega, by omega, by omega⟩
  obtain ⟨a, b, c⟩ := key n.natAbs n 0 (vRel_start (by omega) (by omega)) (by omega) (Nat.le_refl _)
  refine ⟨a, b, c, fun hz => ?_⟩
  by_cases hm : n.tmod p = 0
  · have h := vRel_start (n := n) (p := p) (by omega) (by omega)
    obtain ⟨h2, h3⟩ := vRel_step hp h hm
    have cpos : ∀ (f : Nat) (m c : Int), VRel n p m c → 1 ≤ c → m.natAbs ≤ f → 1 ≤ valCount n p := by
      intro f
      induction f with
      | zero => intro m c h _ hf; have := h.1; omega
      | succ f ih =>
        intro m c h hc hf
        by_cases hm : m.tmod p = 0
        · obtain ⟨h2, h3⟩ := vRel_step hp h hm
          exact ih _ _ h2 (by omega) (by omega)
        · obtain ⟨e1, e2⟩ := vRel_end h hm
          omega
    have := cpos _ _ _ h2 (by omega) (Nat.le_refl _)
    omega
  · exact (vT_zero hm).2
theorem fRel_start {n : Int} (h0 : 1 ≤ n) (h1 : n ≤ 1000000) : FRel n n 2 [] := ⟨h0, h1, by omega, by omega, by simp, 1000, by omega, rfl⟩
theorem fRel_step {n m : Int} {d : Nat} {acc : List (Int × Int)} (h : FRel n m d acc) (hd : (d : Int) * d ≤ m) :
    FRel n (valRest m d) (d + 1) (if 0 < valCount m d then acc ++ [((d : Int), valCount m d)] else acc) := by
  obtain ⟨h1, h2, h3, h4, h5, f, h6, h7⟩ := h
  have h8 := sq_le_1000 h2 hd
  obtain ⟨a, b, c, _⟩ := vT_props (p := d) (by omega) h1 h2
  match f, h6, h7 with
  | 0, h6, h7 => omega
  | f + 1, h6, h7 =>
    rw [fF, if_pos hd] at h7
    refine ⟨a, by omega, by omega, by omega, ?_, f, by omega, by simpa using h7⟩
    split
    · simp; omega
    · omega
theorem fRel_end {n m : Int} {d : Nat} {acc : List (Int × Int)} (h : FRel n m d acc) (hd : ¬ (d : Int) * d ≤ m) : factT n = if 1 < m then acc ++ [(m, 1)] else acc := by
  obtain ⟨h1, h2, h3, h4, h5, f, h6, h7⟩ := h
  have e : fF 1000 n 2 [] = (acc, m) := by
    rw [← h7]; cases f <;> simp [fF, hd]
  simp [factT, e]
theorem factT_length {n : Int} (h0 : 1 ≤ n) (h1 : n ≤ 1000000) : (factT n).length ≤ 2000 := by
  have key : ∀ (f : Nat) (m : Int) (d : Nat) (acc : List (Int × Int)), FRel n m d acc → 1002 - d ≤ f → (factT n).length ≤ 2000 := by
    intro f
    induction f with
    | zero => intro m d acc h hf; have := h.2.2.2.1; omega
    | succ f ih =>
      intro m d acc h hf
      by_cases hd : (d : Int) * d ≤ m
      · exact ih _ _ _ (fRel_step h hd) (by omega)
      · rw [fRel_end h hd]
        have h4 := h.2.2.2.1
        have h5 := h.2.2.2.2.1
        split
        · simp; omega
        · omega
  exact key _ _ _ _ (fRel_start h0 h1) (Nat.le_refl _)
end Go.Proofs.Ytbjkcoajabcibaa
