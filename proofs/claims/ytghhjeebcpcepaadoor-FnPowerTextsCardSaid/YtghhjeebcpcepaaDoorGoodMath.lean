/- Plain mathematics: what trial division answers is a list of primes, strictly increasing, with exponents of at least 1, whose product is the number; the sorted divisors come in pairs. Conditions: n from 1 to 1000000. -/
import Derived.Test.YtghhjeebcpcepaaDoorDivMath
namespace Go.Proofs.YtghhjeebcpcepaaDoor
open Go.RowKit
set_option linter.unusedVariables false
def pprod (l : List (Int × Int)) : Int := l.foldr (fun p a => p.1 ^ p.2.toNat * a) 1
theorem pprod_nil : pprod [] = 1 := rfl
theorem pprod_cons (p : Int × Int) (l : List (Int × Int)) : pprod (p :: l) = p.1 ^ p.2.toNat * pprod l := rfl
theorem pprod_append (a b : List (Int × Int)) : pprod (a ++ b) = pprod a * pprod b := by
  induction a with
  | nil => simp [pprod_nil]
  | cons p a ih => rw [List.cons_append, pprod_cons, pprod_cons, ih, Int.mul_assoc]
/-- how often p divides n, and what remains -/
theorem vRel_prod {n p : Int} (hp : 2 ≤ p) : ∀ (f : Nat) (m c : Int), VRel n p m c → m * p ^ c.toNat = n → m.natAbs ≤ f →
    valRest n p * p ^ (valCount n p).toNat = n ∧ (valRest n p).tmod p ≠ 0 ∧ c ≤ valCount n p := by
  intro f
  induction f with
  | zero => intro m c h _ hf; have := h.1; omega
  | succ f ih =>
    intro m c h hm hf
    by_cases h0 : m.tmod p = 0
    · obtain ⟨h2, h3⟩ := vRel_step hp h h0
      have e := Int.tmod_add_mul_tdiv m p
      rw [h0] at e
      have hc := h.2.1
      obtain ⟨a, b, c'⟩ := ih _ _ h2 (by
        rw [← hm, show (c + 1).toNat = c.toNat + 1 by omega, Int.pow_succ]
        have e2 : m = p * m.tdiv p := by omega
        calc m.tdiv p * (p ^ c.toNat * p) = (p * m.tdiv p) * p ^ c.toNat := by grind
          _ = m * p ^ c.toNat := by rw [← e2]) (by omega)
      exact ⟨a, b, by omega⟩
    · obtain ⟨e1, e2⟩ := vRel_end h h0
      rw [← e1, ← e2]
      exact ⟨hm, h0, Int.le_refl _⟩
theorem vT_prod {n p : Int} (hp : 2 ≤ p) (h0 : n ≠ 0) (h1 : n.natAbs ≤ 1000000000000) : valRest n p * p ^ (valCount n p).toNat = n ∧ (valRest n p).tmod p ≠ 0 := by
  obtain ⟨a, b, _⟩ := vRel_prod hp n.natAbs n 0 (vRel_start h0 h1) (by simp) (Nat.le_refl _)
  exact ⟨a, b⟩
/-- what holds of a number that is being divided out: it divides on exactly while fewer than valCount steps are done -/
theorem vRel_more {n p m c : Int} (hp : 2 ≤ p) (h : VRel n p m c) : (m.tmod p = 0 ↔ c < valCount n p) ∧ c ≤ valCount n p := by
  have le : ∀ (f : Nat) (m c : Int), VRel n p m c → m.natAbs ≤ f → c ≤ valCount n p := by
    intro f
    induction f with
    | zero => intro m c h hf; have := h.1; omega
    | succ f ih =>
      intro m c h hf
      by_cases h0 : m.tmod p = 0
      · obtain ⟨h2, h3⟩ := vRel_step hp h h0
        have := ih _ _ h2 (by omega)
        omega
      · have := (vRel_end h h0).1; omega
  refine ⟨⟨fun h0 => ?_, fun hlt => ?_⟩, le _ m c h (Nat.le_refl _)⟩
  · obtain ⟨h2, h3⟩ := vRel_step hp h h0
    have := le _ _ _ h2 (Nat.le_refl _)
    omega
  · by_cases h0 : m.tmod p = 0
    · exact h0
    · have := (vRel_end h h0).1; omega
theorem noDiv_isPrime {q : Int} {k : Nat} (h : NoDiv q k) (hk : q < (k : Int) * k) (h1 : 2 ≤ q) (h2 : q ≤ 1000000) : isPrimeB q = true := by
  rw [isPrimeB_in h1 h2]; exact primeB_true h hk
theorem noDiv_dvd {m r : Int} {k : Nat} (h : NoDiv m k) (hd : ∃ c, m = r * c) : NoDiv r k := by
  intro j h1 h2 h3
  obtain ⟨c, hc⟩ := hd
  refine h j h1 h2 ?_
  have : r = (j : Int) * (r / j) := by have := Int.mul_ediv_add_emod r j; omega
  rw [hc, this, Int.mul_assoc]
  exact Int.mul_emod_right _ _
/-- primes, strictly increasing and below d, with exponents of at least 1 -/
def Rising (d : Int) (l : List (Int × Int)) : Prop :=
  (∀ i, i < l.length → isPrimeB (l.getD i (0, 0)).1 = true ∧ 1 ≤ (l.getD i (0, 0)).2 ∧ (l.getD i (0, 0)).1 < d) ∧
  ∀ i, i + 1 < l.length → (l.getD i (0, 0)).1 < (l.getD (i + 1) (0, 0)).1
theorem getD_append_left {α : Type} {l : List α} {a z : α} {i : Nat} (h : i < l.length) : (l ++ [a]).getD i z = l.getD i z := by
  simp [List.getD, List.getElem?_append_left h]
theorem getD_append_right {α : Type} {l : List α} {a z : α} : (l ++ [a]).getD l.length z = a := by
  simp [List.getD]
theorem rising_snoc {d d' : Int} {l : List (Int × Int)} {a b : Int} (h : Rising d l) (hp : isPrimeB a = true) (hb : 1 ≤ b) (ha : d ≤ a) (hd : a < d') : Rising d' (l ++ [(a, b)]) := by
  refine ⟨fun i hi => ?_, fun i hi => ?_⟩
  · rw [List.length_append, List.length_singleton] at hi
    by_cases e : i < l.length
    · rw [getD_append_left e]
      obtain ⟨x, y, z⟩ := h.1 i e
      exact ⟨x, y, by omega⟩
    · have : i = l.length := by omega
      subst this
      rw [getD_append_right]
      exact ⟨hp, hb, hd⟩
  · rw [List.length_append, List.length_singleton] at hi
    by_cases e : i + 1 < l.length
    · rw [getD_append_left e, getD_append_left (by omega)]
      exact h.2 i e
    · have e2 : i + 1 = l.length := by omega
      rw [getD_append_left (by omega), e2, getD_append_right]
      have := (h.1 i (by omega)).2.2
      show _ < a
      omega
theorem rising_mono {d d' : Int} {l : List (Int × Int)} (h : Rising d l) (hd : d ≤ d') : Rising d' l :=
  ⟨fun i hi => by obtain ⟨a, b, c⟩ := h.1 i hi; exact ⟨a, b, by omega⟩, h.2⟩
/-- what holds of the answer -/
structure Good (n : Int) (l : List (Int × Int)) : Prop where
  rise : Rising (n + 1) l
  prod : pprod l = n
theorem factT_good {n : Int} (h0 : 1 ≤ n) (h1 : n ≤ 1000000) : Good n (factT n) := by
  have key : ∀ (f : Nat) (m : Int) (d : Nat) (acc : List (Int × Int)), FRel n m d acc → m ≤ n → pprod acc * m = n → NoDiv m d → Rising d acc → Rising (n + 1) acc → 1002 - d ≤ f → Good n (factT n) := by
    intro f
    induction f with
    | zero => intro m d acc h _ _ _ _ _ hf; have := h.2.2.2.1; omega
    | succ f ih =>
      intro m d acc h hmn hp hn hr hr2 hf
      have m1 := h.1
      have m2 := h.2.1
      have d2 := h.2.2.1
      by_cases hd : (d : Int) * d ≤ m
      · have hs := fRel_step h hd
        obtain ⟨a, b, c, e⟩ := vT_props (p := d) (by omega) m1 m2
        obtain ⟨v1, v2⟩ := vT_prod (n := m) (p := d) (by omega) (by omega) (by omega)
        have hnr : NoDiv (valRest m d) d := noDiv_dvd hn ⟨_, v1.symm⟩
        have hnd : NoDiv (valRest m d) (d + 1) := noDiv_succ hnr (by rw [← Int.tmod_eq_emod_of_nonneg (by omega)]; exact v2)
        by_cases hc : 0 < valCount m d
        · rw [if_pos hc] at hs
          have hdm : m % (d : Int) = 0 := by
            rw [← v1, show (valCount m d).toNat = ((valCount m d).toNat - 1) + 1 by omega, Int.pow_succ, ← Int.mul_assoc]
            exact Int.mul_emod_left _ _
          have hdd : NoDiv (d : Int) d := by
            refine noDiv_dvd hn ⟨m / d, ?_⟩
            have := Int.mul_ediv_add_emod m d; omega
          have hsq : (d : Int) < (d : Int) * d := by
            have : d * 2 ≤ d * d := Nat.mul_le_mul_left d d2
            have : ((d * 2 : Nat) : Int) ≤ ((d * d : Nat) : Int) := by exact_mod_cast this
            simp at this; omega
          have hprime := noDiv_isPrime hdd hsq (by omega) (by omega)
          refine ih _ _ _ hs (by omega) ?_ hnd (rising_snoc hr hprime (by omega) (Int.le_refl _) (by omega)) (rising_snoc hr hprime (by omega) (Int.le_refl _) (by omega)) (by omega)
          rw [pprod_append, pprod_cons, pprod_nil, Int.mul_one, Int.mul_assoc, Int.mul_comm ((d : Int) ^ _), v1, hp]
        · rw [if_neg hc] at hs
          have hz : valRest m d = m := e (by omega)
          rw [hz] at hs hnd
          exact ih _ _ _ hs hmn hp hnd (rising_mono hr (by omega)) hr2 (by omega)
      · rw [fRel_end h hd]
        by_cases hm : 1 < m
        · rw [if_pos hm]
          have hprime := noDiv_isPrime hn (by omega) (by omega) m2
          have hdm : (d : Int) ≤ m := by
            refine Int.le_of_not_gt fun hlt => ?_
            exact hn m.toNat (by omega) (by omega) (by rw [show ((m.toNat : Nat) : Int) = m by omega]; exact Int.emod_self)
          exact ⟨rising_snoc hr hprime (by omega) hdm (by omega), by
            rw [pprod_append, pprod_cons, pprod_nil]
            show pprod acc * (m ^ 1 * 1) = n
            grind⟩
        · rw [if_neg hm]
          have : m = 1 := by omega
          subst this
          exact ⟨hr2, by simpa using hp⟩
  exact key _ n 2 [] (fRel_start h0 h1) (Int.le_refl _) (by simp [pprod_nil]) (noDiv_two n) ⟨fun i hi => by simp at hi, fun i hi => by simp at hi⟩ ⟨fun i hi => by simp at hi, fun i hi => by simp at hi⟩ (Nat.le_refl _)
theorem isPrimeB_two {q : Int} (h : isPrimeB q = true) : 2 ≤ q ∧ q ≤ 1000000 := by
  unfold isPrimeB inB at h; simp at h; exact ⟨h.1.1, h.1.2⟩
theorem pow_ge_one {p : Int} (h : 2 ≤ p) : ∀ e : Nat, 1 ≤ p ^ e := by
  intro e
  induction e with
  | zero => simp
  | succ e ih =>
    rw [Int.pow_succ]
    have : 1 * 1 ≤ p ^ e * p := Int.mul_le_mul ih (by omega) (by omega) (by omega)
    omega
theorem pow_mono {p : Int} (h : 2 ≤ p) {e E : Nat} (he : e ≤ E) : p ^ e ≤ p ^ E := by
  obtain ⟨k, rfl⟩ := Nat.exists_eq_add_of_le he
  rw [Int.pow_add]
  have h1 := pow_ge_one h e
  have h2 := pow_ge_one h k
  have : p ^ e * 1 ≤ p ^ e * p ^ k := Int.mul_le_mul_of_nonneg_left h2 (by omega)
  omega
theorem pprod_ge_one : ∀ l : List (Int × Int), (∀ q ∈ l, 2 ≤ q.1) → 1 ≤ pprod l := by
  intro l
  induction l with
  | nil => intro _; simp [pprod_nil]
  | cons a l ih =>
    intro h
    rw [pprod_cons]
    have h1 := ih (fun q hq => h q (List.mem_cons_of_mem _ hq))
    have h2 := pow_ge_one (h a List.mem_cons_self) a.2.toNat
    have : 1 * 1 ≤ a.1 ^ a.2.toNat * pprod l := Int.mul_le_mul h2 h1 (by omega) (by omega)
    omega
theorem rising_mem {d : Int} {l : List (Int × Int)} (h : Rising d l) : ∀ q ∈ l, 2 ≤ q.1 := by
  intro q hq
  obtain ⟨i, hi, rfl⟩ := List.getElem_of_mem hq
  have := (h.1 i hi).1
  rw [show l.getD i (0, 0) = l[i] by simp [List.getD, hi]] at this
  exact (isPrimeB_two this).1
/-- the product of the first i powers -/
def upto (l : List (Int × Int)) (i : Nat) : Int := pprod (l.take i)
theorem upto_zero (l : List (Int × Int)) : upto l 0 = 1 := rfl
theorem upto_succ {l : List (Int × Int)} {i : Nat} (h : i < l.length) : upto l (i + 1) = upto l i * (l.getD i (0, 0)).1 ^ (l.getD i (0, 0)).2.toNat := by
  unfold upto
  rw [List.take_succ_eq_append_getElem h, pprod_append, pprod_cons, pprod_nil, Int.mul_one]
  simp [List.getD, h]
theorem good_part {n : Int} {l : List (Int × Int)} (hg : Good n l) {i e : Nat} (hi : i < l.length) (he : e ≤ (l.getD i (0, 0)).2.toNat) :
    1 ≤ upto l i * (l.getD i (0, 0)).1 ^ e ∧ upto l i * (l.getD i (0, 0)).1 ^ e ≤ n := by
  have hm := rising_mem hg.rise
  have h1 : 1 ≤ upto l i := pprod_ge_one _ (fun q hq => hm q (List.mem_of_mem_take hq))
  have hp : 2 ≤ (l.getD i (0, 0)).1 := (isPrimeB_two (hg.rise.1 i hi).1).1
  have h2 := pow_ge_one hp e
  have h3 := pow_mono hp he
  have h4 : 1 ≤ pprod (l.drop (i + 1)) := pprod_ge_one _ (fun q hq => hm q (List.mem_of_mem_drop hq))
  have h5 : upto l (i + 1) * pprod (l.drop (i + 1)) = n := by
    rw [← hg.prod]; unfold upto; rw [← pprod_append, List.take_append_drop]
  rw [upto_succ hi] at h5
  have h6 : 1 * 1 ≤ upto l i * (l.getD i (0, 0)).1 ^ e := Int.mul_le_mul h1 h2 (by omega) (by omega)
  have h7 : upto l i * (l.getD i (0, 0)).1 ^ e ≤ upto l i * (l.getD i (0, 0)).1 ^ (l.getD i (0, 0)).2.toNat := Int.mul_le_mul_of_nonneg_left h3 (by omega)
  have h8 : upto l i * (l.getD i (0, 0)).1 ^ (l.getD i (0, 0)).2.toNat * 1 ≤ upto l i * (l.getD i (0, 0)).1 ^ (l.getD i (0, 0)).2.toNat * pprod (l.drop (i + 1)) := Int.mul_le_mul_of_nonneg_left h4 (by omega)
  omega
theorem upto_all {n : Int} {l : List (Int × Int)} (hg : Good n l) : upto l l.length = n := by
  unfold upto; rw [List.take_length]; exact hg.prod
/-- the sorted divisors, read from both ends -/
theorem divs_rev {N : Nat} (hN : 1 ≤ N) : specL N N = ((specL N N).map fun x => N / x).reverse := by
  have hs : (specL N N).Pairwise (· < ·) := List.Pairwise.filter _ (List.pairwise_lt_range' 1)
  have hpos : ∀ x ∈ specL N N, 1 ≤ x ∧ N % x = 0 := fun x hx => by obtain ⟨a, _, c⟩ := mem_specL.1 hx; exact ⟨a, c⟩
  have hr : (((specL N N).map fun x => N / x).reverse).Pairwise (· < ·) := by
    rw [List.pairwise_reverse, List.pairwise_map]
    refine List.Pairwise.imp_of_mem (fun {a b} ha hb hab => ?_) hs
    have e1 := cofactor (hpos a ha).2
    have e2 := cofactor (hpos b hb).2
    refine Nat.lt_of_not_le fun hle => ?_
    have h1 : a * (N / a) ≤ a * (N / b) := Nat.mul_le_mul_left a hle
    have h2 : a * (N / b) < b * (N / b) := Nat.mul_lt_mul_of_pos_right hab (co_dvd hN (hpos b hb).2).2
    omega
  refine List.Perm.eq_of_pairwise (le := (· < ·)) (fun a b _ _ g1 g2 => by omega) hs hr ?_
  refine (List.perm_ext_iff_of_nodup (hs.imp (fun h => Nat.ne_of_lt h)) (hr.imp (fun h => Nat.ne_of_lt h))).2 fun x => ?_
  rw [List.mem_reverse, List.mem_map]
  have le_of : ∀ {d}, N % d = 0 → d ≤ N := fun {d} hd => by
    have e := cofactor hd
    have := (co_dvd hN hd).2
    have : d * 1 ≤ d * (N / d) := Nat.mul_le_mul_left d this
    omega
  constructor
  · intro hx
    obtain ⟨c1, c2⟩ := co_dvd hN (hpos x hx).2
    have e := cofactor (hpos x hx).2
    have e2 := cofactor c1
    refine ⟨N / x, mem_specL.2 ⟨c2, le_of c1, c1⟩, ?_⟩
    have h3 : (N / x) * x = (N / x) * (N / (N / x)) := by rw [← e2, Nat.mul_comm]; omega
    exact (Nat.eq_of_mul_eq_mul_left (by omega) h3).symm
  · rintro ⟨y, hy, rfl⟩
    obtain ⟨c1, c2⟩ := co_dvd hN (hpos y hy).2
    exact mem_specL.2 ⟨c2, le_of c1, c1⟩
theorem divs_pair {N i : Nat} (hN : 1 ≤ N) (hi : i < (specL N N).length) :
    (ints (specL N N)).getD i 0 * (ints (specL N N)).getD ((specL N N).length - 1 - i) 0 = (N : Int) := by
  obtain ⟨L, hL⟩ : ∃ L, L = specL N N := ⟨_, rfl⟩
  have hr := divs_rev hN
  have hpos : ∀ x ∈ specL N N, 1 ≤ x ∧ N % x = 0 := fun x hx => by obtain ⟨a, _, c⟩ := mem_specL.1 hx; exact ⟨a, c⟩
  rw [← hL] at hr hi hpos ⊢
  have hj : L.length - 1 - i < L.length := by omega
  have e1 : L[i] = N / L[L.length - 1 - i] := by
    have := congrArg (fun l => l[i]?) hr
    simp [hi] at this
    exact this
  have e2 := cofactor (hpos _ (List.getElem_mem hj)).2
  have e3 : L[i] * L[L.length - 1 - i] = N := by rw [e1, Nat.mul_comm]; omega
  simp only [ints, List.getD]
  rw [List.getElem?_map, List.getElem?_map, List.getElem?_eq_getElem hi, List.getElem?_eq_getElem hj]
  show ((L[i] : Nat) : Int) * ((L[L.length - 1 - i] : Nat) : Int) = (N : Int)
  exact_mod_cast e3
end Go.Proofs.YtghhjeebcpcepaaDoor
