/- Plain mathematics of chapter 9: irreducible polynomials by a prime; factors are told in one way only. -/
import Derived.Test.YtckpeoadglkbgaaModLaws
namespace Go.Proofs.Ytckpeoadglkbgaa
set_option linter.unusedVariables false
set_option maxRecDepth 20000
set_option linter.unusedSimpArgs false
structure PP (p : Int) : Prop where
  two : 2 ≤ p
  top : p ≤ 97
  prime : PrimeP p
/-- d divides f -/
def Dv (p : Int) (d f : List Int) : Prop := ∃ k, CgP p f (mulL d k)
theorem dv_refl (p : Int) (f : List Int) : Dv p f f := ⟨[1], cgp_val fun x => by rw [pval_mul, pval_one, Int.mul_one]⟩
theorem dv_cg {p : Int} {d f g : List Int} (h : Dv p d f) (e : CgP p g f) : Dv p d g := by
  obtain ⟨k, hk⟩ := h; exact ⟨k, cgp_trans e hk⟩
theorem dv_trans {p : Int} {a b c : List Int} (h1 : Dv p a b) (h2 : Dv p b c) : Dv p a c := by
  obtain ⟨k, m, hk⟩ := h1
  obtain ⟨l, n, hl⟩ := h2
  refine ⟨mulL k l, addL (mulL m l) n 1, fun x => ?_⟩
  have e1 := hk x
  have e2 := hl x
  simp only [pval_mul, pval_add] at e1 e2 ⊢
  grind
theorem dv_left (p : Int) (a b : List Int) : Dv p a (mulL a b) := ⟨b, cgp_refl p _⟩
theorem dv_right (p : Int) (a b : List Int) : Dv p b (mulL a b) := ⟨a, cgp_val fun x => by rw [pval_mul, pval_mul, Int.mul_comm]⟩
structure IrrP (p : Int) (q : List Int) : Prop where
  mod : ModP p q
  mon : q.getD (q.length - 1) 0 = 1
  deg : 2 ≤ q.length
  irr : ∀ d, ModP p d → d.getD (d.length - 1) 0 = 1 → Dv p d q → d = [1] ∨ d = q
theorem IrrP.ne {p : Int} {q : List Int} (h : IrrP p q) : q ≠ [] := fun e => by have := h.deg; rw [e] at this; simp at this
theorem modP_one {p : Int} (hp : 2 ≤ p) : ModP p [1] := by
  refine ⟨fun i => ?_, by simp [lastB]⟩
  match i with
  | 0 => exact ⟨by simp, by simp; omega⟩
  | i + 1 => simp; omega
theorem IrrP.not_one {p : Int} (P : PP p) {q : List Int} (h : IrrP p q) : ¬ Dv p q [1] := fun ⟨k, hk⟩ => by
  have := multiple_le P.prime (modP_one P.two) h.mod (by simp) h.ne hk
  have h2 := h.deg
  simp at this; omega
/-- an irreducible one that divides a product divides one of both -/
theorem irr_prime {p : Int} (P : PP p) {q a b : List Int} (h : IrrP p q) (hd : Dv p q (mulL a b)) : Dv p q a ∨ Dv p q b := by
  have hp0 : 0 < p := by have := P.two; omega
  have ha := redL_mod hp0 a
  have G := gcdL_is P.two P.top P.prime h.mod ha
  have h0 : gcdL p q (redL p a) ≠ [] := fun e => h.ne ((gcd_zero hp0 h.mod ha G).1 e).1
  rcases h.irr _ G.mod (G.mon.resolve_left h0) G.left with e | e
  · right
    obtain ⟨u, v, k, hk⟩ := G.comb
    obtain ⟨c, m, hc⟩ := hd
    obtain ⟨n, hn⟩ := redL_cg p a
    rw [e] at hk
    refine ⟨addL (mulL b u) (mulL v c) 1, addL (addL (mulL v (mulL n b)) (mulL v m) 1) (mulL k b) 1, fun x => ?_⟩
    have e1 := hk x
    have e2 := hc x
    have e3 := hn x
    simp only [pval_mul, pval_add, pval_one] at e1 e2 e3 ⊢
    grind
  · left
    have hr := G.right
    rw [e] at hr
    exact dv_cg hr (cgp_symm (redL_cg p a))
theorem irr_same {p : Int} {q r : List Int} (h : IrrP p q) (h' : IrrP p r) (hd : Dv p q r) : q = r := by
  rcases h'.irr q h.mod h.mon hd with e | e
  · have := h.deg; rw [e] at this; simp at this
  · exact e
/-! powers and products -/
def powP (q : List Int) : Nat → List Int
  | 0 => [1]
  | n + 1 => mulL q (powP q n)
theorem pval_powP (q : List Int) (x : Int) : ∀ n, pval (powP q n) x = pval q x ^ n
  | 0 => by rw [powP, pval_one, Int.pow_zero]
  | n + 1 => by rw [powP, pval_mul, pval_powP q x n, Int.pow_succ, Int.mul_comm]
theorem cancel {p : Int} (P : PP p) {g a b : List Int} (hg : ModP p g) (h0 : g ≠ []) (h : CgP p (mulL g a) (mulL g b)) : CgP p a b := by
  have h1 : CgP p (mulL g (addL a b (-1))) [] := by
    obtain ⟨k, hk⟩ := h
    refine ⟨k, fun x => ?_⟩
    have := hk x
    simp only [pval_mul, pval_add, pval_nil] at this ⊢
    grind
  have h2 := no_div P.prime (modP_last hg h0) (by cases g with | nil => exact absurd rfl h0 | cons a b => simp) (r := []) (fun i _ => by simp) h1
  exact cgp_of fun i => by have := h2 i; rw [addL_getD] at this; rwa [show a.getD i 0 + -1 * b.getD i 0 = a.getD i 0 - b.getD i 0 by omega] at this
theorem cancel_pow {p : Int} (P : PP p) {g : List Int} (hg : ModP p g) (h0 : g ≠ []) : ∀ (n : Nat) {a b : List Int}, CgP p (mulL (powP g n) a) (mulL (powP g n) b) → CgP p a b
  | 0, a, b, h => by
    refine cgp_trans (cgp_val fun x => ?_) (cgp_trans h (cgp_val fun x => ?_)) <;> rw [pval_mul, powP, pval_one, Int.one_mul]
  | n + 1, a, b, h => by
    refine cancel_pow P hg h0 n (cancel P hg h0 (cgp_trans (cgp_val fun x => ?_) (cgp_trans h (cgp_val fun x => ?_)))) <;> simp only [powP, pval_mul, Int.mul_assoc]
theorem dv_powP {p : Int} (P : PP p) {q a : List Int} (h : IrrP p q) : ∀ n, Dv p q (powP a n) → Dv p q a
  | 0, hd => absurd hd (h.not_one P)
  | n + 1, hd => (irr_prime P h hd).elim id (dv_powP P h n)
def prodF : List (List Int × Nat) → List Int
  | [] => [1]
  | x :: l => mulL (powP x.1 x.2) (prodF l)
theorem pval_prodF (l m : List (List Int × Nat)) (x : Int) : pval (prodF (l ++ m)) x = pval (prodF l) x * pval (prodF m) x := by
  induction l with
  | nil => rw [List.nil_append, prodF, pval_one, Int.one_mul]
  | cons a l ih => rw [List.cons_append, prodF, prodF, pval_mul, pval_mul, ih, Int.mul_assoc]
theorem dv_prodF {p : Int} (P : PP p) {q : List Int} (h : IrrP p q) : ∀ l, Dv p q (prodF l) → ∃ x, x ∈ l ∧ Dv p q x.1
  | [], hd => absurd hd (h.not_one P)
  | x :: l, hd => by
    rcases irr_prime P h hd with h1 | h1
    · exact ⟨x, by simp, dv_powP P h x.2 h1⟩
    · obtain ⟨y, hy, h2⟩ := dv_prodF P h l h1
      exact ⟨y, by simp [hy], h2⟩
/-! the order -/
def cmpN (f g : List Int) : Nat → Int
  | 0 => 0
  | k + 1 => if f.getD k 0 < g.getD k 0 then -1 else if f.getD k 0 > g.getD k 0 then 1 else cmpN f g k
def cmpL (f g : List Int) : Int := if f.length < g.length then -1 else if f.length > g.length then 1 else cmpN f g f.length
theorem cmpN_swap (f g : List Int) : ∀ k, cmpN g f k = -cmpN f g k
  | 0 => rfl
  | k + 1 => by
    rw [cmpN, cmpN, cmpN_swap f g k]
    split <;> split <;> (try split) <;> omega
theorem cmpL_swap (f g : List Int) : cmpL g f = -cmpL f g := by
  unfold cmpL
  by_cases h1 : f.length < g.length
  · rw [if_neg (by omega), if_pos (by omega), if_pos h1]; rfl
  · by_cases h2 : f.length > g.length
    · rw [if_pos h2, if_neg h1, if_pos h2]
    · rw [if_neg h2, if_neg h1, if_neg h1, if_neg h2, show g.length = f.length by omega]; exact cmpN_swap f g _
theorem cmpN_zero {f g : List Int} : ∀ k, cmpN f g k = 0 → ∀ i, i < k → f.getD i 0 = g.getD i 0
  | 0, _, i, hi => absurd hi (by omega)
  | k + 1, h, i, hi => by
    rw [cmpN] at h
    split at h
    · omega
    · split at h
      · omega
      · by_cases e : i = k
        · subst e; omega
        · exact cmpN_zero k h i (by omega)
theorem cmpL_zero {f g : List Int} (h : cmpL f g = 0) : f = g := by
  unfold cmpL at h
  split at h
  · omega
  · split at h
    · omega
    · refine List.ext_getElem (by omega) fun i h1 h2 => ?_
      have := cmpN_zero _ h i h1
      rw [List.getD, List.getD, List.getElem?_eq_getElem h1, List.getElem?_eq_getElem h2] at this
      exact this
def ltP (f g : List Int) : Prop := cmpL f g = -1
theorem ltP_asymm {f g : List Int} (h : ltP f g) : ¬ ltP g f := fun h' => by unfold ltP at *; rw [cmpL_swap] at h'; omega
theorem ltP_irrefl (f : List Int) : ¬ ltP f f := fun h => ltP_asymm h h
def Ordered (l : List (List Int × Nat)) : Prop := l.Pairwise fun a b => ltP a.1 b.1
theorem ordered_same : ∀ {l m : List (List Int × Nat)}, Ordered l → Ordered m → (∀ x, x ∈ l ↔ x ∈ m) → l = m
  | [], [], _, _, _ => rfl
  | [], y :: m, _, _, h => absurd ((h y).2 (by simp)) (by simp)
  | x :: l, [], _, _, h => absurd ((h x).1 (by simp)) (by simp)
  | x :: l, y :: m, hl, hm, h => by
    have hl' := List.pairwise_cons.1 hl
    have hm' := List.pairwise_cons.1 hm
    have e : x = y := by
      have h1 := (h x).1 (by simp)
      have h2 := (h y).2 (by simp)
      rcases List.mem_cons.1 h1 with h1 | h1
      · exact h1
      · rcases List.mem_cons.1 h2 with h2 | h2
        · exact h2.symm
        · exact absurd (hl'.1 y h2) (ltP_asymm (hm'.1 x h1))
    subst e
    rw [ordered_same hl'.2 hm'.2 fun z => ?_]
    constructor
    · intro hz
      rcases List.mem_cons.1 ((h z).1 (by simp [hz])) with e | e
      · exact absurd (hl'.1 z hz) (by rw [e]; exact ltP_irrefl _)
      · exact e
    · intro hz
      rcases List.mem_cons.1 ((h z).2 (by simp [hz])) with e | e
      · exact absurd (hm'.1 z hz) (by rw [e]; exact ltP_irrefl _)
      · exact e
/-- the factors of f, in order -/
structure IsFac (p : Int) (f : List Int) (l : List (List Int × Nat)) : Prop where
  irr : ∀ x, x ∈ l → IrrP p x.1 ∧ 1 ≤ x.2
  ord : Ordered l
  eq : CgP p f (prodF l)
theorem pow_le_dv {p : Int} {q f : List Int} {m n : Nat} (h : m ≤ n) (hd : Dv p (powP q n) f) : Dv p (powP q m) f := by
  refine dv_trans ⟨powP q (n - m), cgp_val fun x => ?_⟩ hd
  rw [pval_mul, pval_powP, pval_powP, pval_powP, ← Int.pow_add, show m + (n - m) = n by omega]
/-- who is in the list: the irreducible ones that divide, each with the number of times -/
theorem fac_mem {p : Int} (P : PP p) {f : List Int} {l : List (List Int × Nat)} (F : IsFac p f l) (q : List Int) (t : Nat) :
    (q, t) ∈ l ↔ IrrP p q ∧ 1 ≤ t ∧ Dv p (powP q t) f ∧ ¬ Dv p (powP q (t + 1)) f := by
  have fwd : ∀ q t, (q, t) ∈ l → IrrP p q ∧ 1 ≤ t ∧ Dv p (powP q t) f ∧ ¬ Dv p (powP q (t + 1)) f := by
    intro q t hm
    obtain ⟨hq, ht⟩ := F.irr _ hm
    simp only at hq ht
    obtain ⟨l1, l2, e⟩ := List.append_of_mem hm
    have hO := F.ord
    rw [e] at hO
    have hO2 := List.pairwise_append.1 hO
    have hO3 := List.pairwise_cons.1 hO2.2.1
    have hE : CgP p f (mulL (powP q t) (prodF (l1 ++ l2))) := cgp_trans F.eq (cgp_val fun x => by
      rw [e, pval_prodF, pval_mul, pval_prodF, prodF, pval_mul]
      simp only
      grind)
    refine ⟨hq, ht, ⟨_, hE⟩, fun ⟨k, hk⟩ => ?_⟩
    have h1 : CgP p (mulL (powP q t) (prodF (l1 ++ l2))) (mulL (powP q t) (mulL q k)) := cgp_trans (cgp_symm hE) (cgp_trans hk (cgp_val fun x => by
      rw [powP, pval_mul, pval_mul, pval_mul, pval_mul]; grind))
    obtain ⟨y, hy, hd⟩ := dv_prodF P hq _ ⟨k, cancel_pow P hq.mod hq.ne t h1⟩
    have hyl : y ∈ l := by
      rw [e]
      rcases List.mem_append.1 hy with h | h <;> simp [h]
    have hs := irr_same hq (F.irr y hyl).1 hd
    rcases List.mem_append.1 hy with h | h
    · have := hO2.2.2 y h (q, t) (by simp)
      simp only [← hs] at this
      exact ltP_irrefl _ this
    · have := hO3.1 y h
      simp only [← hs] at this
      exact ltP_irrefl _ this
  refine ⟨fwd q t, fun ⟨hq, ht, h1, h2⟩ => ?_⟩
  have h3 : Dv p q f := dv_trans ⟨[1], cgp_val fun x => by simp only [pval_mul, pval_powP, pval_one]; rw [Int.pow_succ, Int.pow_zero]; omega⟩ (pow_le_dv (m := 1) ht h1)
  obtain ⟨y, hy, hd⟩ := dv_prodF P hq l (dv_cg h3 (cgp_symm F.eq))
  have hs := irr_same hq (F.irr y hy).1 hd
  obtain ⟨y1, y2⟩ := y
  simp only at hs
  subst hs
  obtain ⟨_, g1, g2, g3⟩ := fwd _ _ hy
  have e : t = y2 := by
    rcases Nat.lt_trichotomy t y2 with h | h | h
    · exact absurd (pow_le_dv h g2) h2
    · exact h
    · exact absurd (pow_le_dv h h1) g3
  rw [e]; exact hy
/-- FACTORS ARE TOLD IN ONE WAY ONLY -/
theorem fac_unique {p : Int} (P : PP p) {f : List Int} {l m : List (List Int × Nat)} (h : IsFac p f l) (h' : IsFac p f m) : l = m :=
  ordered_same h.ord h'.ord fun x => by obtain ⟨q, t⟩ := x; rw [fac_mem P h, fac_mem P h']
end Go.Proofs.Ytckpeoadglkbgaa
