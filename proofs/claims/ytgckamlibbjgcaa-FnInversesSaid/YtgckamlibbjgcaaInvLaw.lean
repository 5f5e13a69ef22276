/- The walk of the law FnInverses: true for every code; below the old memory nothing has turned. -/
import Derived.Test.YtgckamlibbjgcaaDrawRes
import Derived.Test.YtgckamlibbjgcaaCommonFn
import Derived.Test.YtgckamlibbjgcaaRoot
import Derived.Test.YtgckamlibbjgcaaBezPos
namespace Go.Proofs.Ytgckamlibbjgcaa
open Go.RowKit
set_option linter.unusedVariables false
theorem ord_facts {p n a : Int} (h0 : ringM p n ≠ 0) (hu : a % p ≠ 0) : ∃ d : Nat, ordV a (ringM p n) = d ∧ 1 ≤ d ∧ (d : Int) ≤ 1000000000 ∧ powM a d (ringM p n) = 1 ∧ unitN p n % (d : Int) = 0 := by
  obtain ⟨j, _, _, _, u0, u1⟩ := unitN_eq h0
  obtain ⟨_, _, _, _, hm, _, _⟩ := ringM_bd h0
  have he := euler h0 hu
  obtain ⟨d, ⟨hd1, hd2⟩, hle, hmin⟩ := exists_least (P := fun e => 1 ≤ e ∧ powM a e (ringM p n) = 1) (unitN p n).toNat ⟨by omega, he⟩
  have hr : powM a ((unitN p n).toNat % d) (ringM p n) = 1 := by
    have := powM_add (r := (unitN p n).toNat % d) hm (powM_mul hm hd2 ((unitN p n).toNat / d))
    rw [Nat.div_add_mod] at this
    rw [← this]; exact he
  have h1 : (unitN p n).toNat % d = 0 := by
    apply Classical.byContradiction; intro hn
    exact hmin _ (Nat.mod_lt _ (by omega)) ⟨by omega, hr⟩
  refine ⟨d, ordV_eq (by omega) ⟨by omega, hd2, fun e he1 he2 he3 => hmin e (by omega) ⟨he1, he3⟩⟩, hd1, by omega, hd2, ?_⟩
  rw [show unitN p n = (((unitN p n).toNat : Nat) : Int) by omega]
  exact_mod_cast h1
theorem unitC_zero {p n a : Int} (h : unitC p n a = 0) : ringM p n ≠ 0 ∧ 0 ≤ a ∧ a < ringM p n ∧ a % p ≠ 0 ∧ resC p n a = 0 := by
  unfold unitC at h
  split at h
  · rename_i hr
    split at h
    · omega
    · rename_i hu
      obtain ⟨h1, h2, h3⟩ := resC_zero hr
      exact ⟨h1, h2, h3, hu, hr⟩
  · contradiction
/-- what the law asks of a unit -/
theorem inv_facts {p n a : Int} (h : unitC p n a = 0) :
    ringC p n = 0 ∧ 2 ≤ ringM p n ∧ ringM p n ≤ 1000000000 ∧ 0 ≤ a * invV p n a ∧ a * invV p n a ≤ 1000000000000000000 ∧ a * invV p n a % ringM p n = 1 ∧
    1 ≤ ordR p n a ∧ ordR p n a ≤ 1000000000 ∧ 0 ≤ cntV p n ∧ cntV p n ≤ 1000000000 ∧ cntV p n % ordR p n a = 0 ∧ powC p n a (ordR p n a) = 0 ∧ powV p n a (ordR p n a) = 1 := by
  obtain ⟨h0, ha0, ha1, hu, hr⟩ := unitC_zero h
  obtain ⟨_, _, _, _, hm, hm2, _⟩ := ringM_bd h0
  obtain ⟨d, d1, d2, d3, d4, d5⟩ := ord_facts h0 hu
  obtain ⟨_, _, _, u0, u1⟩ := unit_bd h0
  have ei : invV p n a = bezX a (ringM p n) % ringM p n := by simp [invV, h]
  have eo : ordR p n a = d := by simp [ordR, h, d1]
  have ec : cntV p n = unitN p n := by simp [cntV, h0]
  have hi0 := Int.emod_nonneg (bezX a (ringM p n)) h0
  have hi1 := Int.emod_lt_of_pos (bezX a (ringM p n)) (show 0 < ringM p n by omega)
  have hp := prod_lt hm2 ha0 ha1 hi0 hi1
  have hc : powC p n a d = 0 := by simp [powC, hr]; omega
  rw [ei, eo, ec]
  refine ⟨by simp [ringC, h0], hm, hm2, hp.1, hp.2, bez_inverse ha0 ha1 hm hm2 (coprime_ring h0 hu), by omega, by omega, by unfold unitN; omega, by unfold unitN; omega, d5, hc, ?_⟩
  simp only [powV, hc, if_true]
  exact d4
/-- a ring laid in a variable, from an elder world on -/
theorem keepW_first {w0 w w1 : World} {a b : Value} {T : TypeId} (hL : Below w0.heap.size w0 w) (hb : Below (w.alloc (.cells #[a, b] T)).heap.size (w.alloc (.cells #[a, b] T)) w1) :
    Below w0.heap.size w0 w1 ∧ w1.cell? ⟨w.heap.size, 0, none⟩ = some a ∧ w1.cell? ⟨w.heap.size, 1, none⟩ = some b :=
  ⟨hL.trans ((below_one hb).mono hL.size), cells_two hb⟩
theorem keepW_next {w0 w1 w2 : World} {k : Nat} {a b : Value} (h : Below w0.heap.size w0 w1 ∧ w1.cell? ⟨k, 0, none⟩ = some a ∧ w1.cell? ⟨k, 1, none⟩ = some b) (hb : Below w1.heap.size w1 w2) :
    Below w0.heap.size w0 w2 ∧ w2.cell? ⟨k, 0, none⟩ = some a ∧ w2.cell? ⟨k, 1, none⟩ = some b := by
  have hlt := World.block_lt_of_cell? _ _ h.2.1
  exact ⟨h.1.trans (hb.mono h.1.size), by rw [hb.cell (p := ⟨k, 0, none⟩) hlt]; exact h.2.1, by rw [hb.cell (p := ⟨k, 1, none⟩) hlt]; exact h.2.2⟩
set_option maxRecDepth 100000 in
set_option maxHeartbeats 1600000 in
theorem inverses_core (o : Option Addr) (len cap : Nat) (w : World) (hl : len ≤ 4096) (hc : CodeIn w o len) :
    Calls Try.prog 3 #[.slice o len cap] w fun e w' => e = .returned (.bool true) ∧ Below w.heap.size w w' := by
  have HC := Lib.hid hc
  clear hc
  go_enter Try.func3, Try.ntmps3
  go_wp2_with (go_at_call 11; refine (big_no _ _ _ _ hl).mono ?_; rintro e w' ⟨rfl, rfl⟩)
  refine (drawInverse_any _ _ _ _ hl HC.out).mono ?_
  rintro e w1 ⟨p, n, a, rfl, hL⟩
  have hRB : (ringB p n != ringB p n) = false := by simp
  by_cases hu : unitC p n a = 0
  · obtain ⟨k1, k2, k3, k4, k5, k6, k7, k8, k9, k10, k11, k12, k13⟩ := inv_facts hu
    have hu' : (unitC p n a == 0) = true := by simp [hu]
    have hu'' : (unitC p n a != 0) = false := by simp [hu]
    have K := Lib.hid (And.intro k1 (And.intro k2 (And.intro k3 (And.intro k4 (And.intro k5 (And.intro k6 (And.intro k7 (And.intro k8 (And.intro k9 (And.intro k10 (And.intro k11 (And.intro k12 k13))))))))))))
    have HU := Lib.hid (And.intro hu (And.intro hu' hu''))
    clear k1 k2 k3 k4 k5 k6 k7 k8 k9 k10 k11 k12 k13 hu hu' hu''
    go_wp2_with (first | (go_at_call 13; refine (implInverse_any _ _ _ _).mono ?_; rintro e' wn ⟨rfl, hb⟩; (first | have hH := keepW_first hL hb | have hH := keepW_next ⟨hB, c0, c1⟩ hb); obtain ⟨hB, c0, c1⟩ := hH) | (go_at_call 14; refine (specInverse_any _ _ _ _).mono ?_; rintro e' wn ⟨rfl, hb⟩; (first | have hH := keepW_first hL hb | have hH := keepW_next ⟨hB, c0, c1⟩ hb); obtain ⟨hB, c0, c1⟩ := hH) | (go_at_call 15; refine (implOrder_any _ _ _ _).mono ?_; rintro e' wn ⟨rfl, hb⟩; (first | have hH := keepW_first hL hb | have hH := keepW_next ⟨hB, c0, c1⟩ hb); obtain ⟨hB, c0, c1⟩ := hH) | (go_at_call 16; refine (specOrder_any _ _ _ _).mono ?_; rintro e' wn ⟨rfl, hb⟩; (first | have hH := keepW_first hL hb | have hH := keepW_next ⟨hB, c0, c1⟩ hb); obtain ⟨hB, c0, c1⟩ := hH) | (go_at_call 17; refine (implCountUnits_any _ _ _).mono ?_; rintro e' wn ⟨rfl, hb⟩; (first | have hH := keepW_first hL hb | have hH := keepW_next ⟨hB, c0, c1⟩ hb); obtain ⟨hB, c0, c1⟩ := hH) | (go_at_call 18; refine (specCountUnits_any _ _ _).mono ?_; rintro e' wn ⟨rfl, hb⟩; (first | have hH := keepW_first hL hb | have hH := keepW_next ⟨hB, c0, c1⟩ hb); obtain ⟨hB, c0, c1⟩ := hH) | (go_at_call 19; refine (implModulusOf_any _ _ _).mono ?_; rintro e' wn ⟨rfl, hb⟩; (first | have hH := keepW_first hL hb | have hH := keepW_next ⟨hB, c0, c1⟩ hb); obtain ⟨hB, c0, c1⟩ := hH) | (go_at_call 20; refine (specModulusOf_any _ _ _).mono ?_; rintro e' wn ⟨rfl, hb⟩; (first | have hH := keepW_first hL hb | have hH := keepW_next ⟨hB, c0, c1⟩ hb); obtain ⟨hB, c0, c1⟩ := hH))
    go_region_held3 (fun w' => Below w.heap.size w w' ∧ w'.cell? ⟨w1.heap.size, 0, none⟩ = some (.int .i64 p) ∧ w'.cell? ⟨w1.heap.size, 1, none⟩ = some (.int .i64 n)) (first | exact ⟨below_drewN hB 1, c0, c1⟩ | exact keepW_next ‹_› hb | assumption) (first | (go_at_call 21; refine (implIsRing_any _ _ _).mono ?_; rintro e wn ⟨rfl, hb⟩) | (go_at_call 22; refine (specIsRing_any _ _ _).mono ?_; rintro e wn ⟨rfl, hb⟩))
    all_goals (clear hB c0 c1; obtain ⟨hB, c0, c1⟩ := ‹Below w.heap.size w _ ∧ _›)
    obtain ⟨hu, hu', hu''⟩ := HU.out
    obtain ⟨k1, k2, k3, k4, k5, k6, k7, k8, k9, k10, k11, k12, k13⟩ := K.out
    have j1 : (ringC p n == 0) = true := by simp [k1]
    have j2 : (ringM p n == 0) = false := by simp; omega
    have j6 : (a * invV p n a % ringM p n == 1) = true := by simp [k6]
    have j7 : (ordR p n a == 0) = false := by simp; omega
    have j8 : decide (0 < ordR p n a) = true := decide_eq_true (by omega)
    have j11 : (cntV p n % ordR p n a == 0) = true := by simp [k11]
    have j12 : (powC p n a (ordR p n a) == 0) = true := by simp [k12]
    have j13 : (powV p n a (ordR p n a) == 1) = true := by simp [k13]
    have k7' : 0 < ordR p n a := by omega
    clear hu k1 k6 k11 k12 k13 hu'
    go_wp2_with (go_at_call 23; refine (implPower_any _ _ _ _ _).mono ?_; rintro e' wn ⟨rfl, hb⟩; (first | have hH := keepW_first hL hb | have hH := keepW_next ⟨hB, c0, c1⟩ hb); obtain ⟨hB, c0, c1⟩ := hH)
    go_ret
    exact ⟨rfl, hB⟩
  · have hu' : (unitC p n a != 0) = true := by simp [hu]
    have HU := Lib.hid hu'
    clear hu hu'
    go_wp2_with (first | (go_at_call 13; refine (implInverse_any _ _ _ _).mono ?_; rintro e' wn ⟨rfl, hb⟩; (first | have hH := keepW_first hL hb | have hH := keepW_next ⟨hB, c0, c1⟩ hb); obtain ⟨hB, c0, c1⟩ := hH) | (go_at_call 14; refine (specInverse_any _ _ _ _).mono ?_; rintro e' wn ⟨rfl, hb⟩; (first | have hH := keepW_first hL hb | have hH := keepW_next ⟨hB, c0, c1⟩ hb); obtain ⟨hB, c0, c1⟩ := hH) | (go_at_call 15; refine (implOrder_any _ _ _ _).mono ?_; rintro e' wn ⟨rfl, hb⟩; (first | have hH := keepW_first hL hb | have hH := keepW_next ⟨hB, c0, c1⟩ hb); obtain ⟨hB, c0, c1⟩ := hH) | (go_at_call 16; refine (specOrder_any _ _ _ _).mono ?_; rintro e' wn ⟨rfl, hb⟩; (first | have hH := keepW_first hL hb | have hH := keepW_next ⟨hB, c0, c1⟩ hb); obtain ⟨hB, c0, c1⟩ := hH) | (go_at_call 17; refine (implCountUnits_any _ _ _).mono ?_; rintro e' wn ⟨rfl, hb⟩; (first | have hH := keepW_first hL hb | have hH := keepW_next ⟨hB, c0, c1⟩ hb); obtain ⟨hB, c0, c1⟩ := hH) | (go_at_call 18; refine (specCountUnits_any _ _ _).mono ?_; rintro e' wn ⟨rfl, hb⟩; (first | have hH := keepW_first hL hb | have hH := keepW_next ⟨hB, c0, c1⟩ hb); obtain ⟨hB, c0, c1⟩ := hH) | (go_at_call 19; refine (implModulusOf_any _ _ _).mono ?_; rintro e' wn ⟨rfl, hb⟩; (first | have hH := keepW_first hL hb | have hH := keepW_next ⟨hB, c0, c1⟩ hb); obtain ⟨hB, c0, c1⟩ := hH) | (go_at_call 20; refine (specModulusOf_any _ _ _).mono ?_; rintro e' wn ⟨rfl, hb⟩; (first | have hH := keepW_first hL hb | have hH := keepW_next ⟨hB, c0, c1⟩ hb); obtain ⟨hB, c0, c1⟩ := hH))
    go_region_held3 (fun w' => Below w.heap.size w w' ∧ w'.cell? ⟨w1.heap.size, 0, none⟩ = some (.int .i64 p) ∧ w'.cell? ⟨w1.heap.size, 1, none⟩ = some (.int .i64 n)) (first | exact ⟨below_drewN hB 1, c0, c1⟩ | exact keepW_next ‹_› hb | assumption) (first | (go_at_call 21; refine (implIsRing_any _ _ _).mono ?_; rintro e wn ⟨rfl, hb⟩) | (go_at_call 22; refine (specIsRing_any _ _ _).mono ?_; rintro e wn ⟨rfl, hb⟩))
    all_goals (clear hB c0 c1; obtain ⟨hB, c0, c1⟩ := ‹Below w.heap.size w _ ∧ _›)
    have hu' := HU.out
    go_wp2
    go_ret
    exact ⟨rfl, hB⟩
set_option maxRecDepth 100000 in
theorem inverses_walk (a : Option Addr) (len cap : Nat) (zs : List Int) (w : World) (h : IsRowOf .u8 w a len cap zs) :
    Calls Try.prog 3 #[.slice a len cap] w fun e w' => e = .returned (.bool true) ∧ Below w.heap.size w w' := by
  obtain ⟨hc, hm⟩ := codeIn_of h
  by_cases hl : len ≤ 4096
  · exact inverses_core a len cap w hl hc
  · clear hc h
    go_enter Try.func3, Try.ntmps3
    go_wp2_with (go_at_call 11; refine (big_yes _ _ _ _ (by omega) (by omega)).mono ?_; rintro e w' ⟨rfl, rfl⟩)
    go_ret
    exact ⟨rfl, Below.refl _ _⟩
end Go.Proofs.Ytgckamlibbjgcaa
