/- Contracts of the walk: the codes of residues, both InverseOf, both PowerOf, both TeichmuellerOf, and the laws FnExactInverseOf, FnExactPowerOf, FnExactTeichmuellerOf. -/
import Derived.Test.YtgckamlibbjgcaaRingLaw
import Derived.Test.YtgckamlibbjgcaaPower
namespace Go.Proofs.Ytgckamlibbjgcaa
open Go.RowKit
set_option linter.unusedVariables false
theorem keep_alloc {w w1 : World} {a b : Value} {T : TypeId} {o : Obj} (hb : Below ((w.alloc (.cells #[a, b] T)).alloc o).heap.size ((w.alloc (.cells #[a, b] T)).alloc o) w1) :
    Below w.heap.size w w1 ∧ w1.cell? ⟨w.heap.size, 0, none⟩ = some a ∧ w1.cell? ⟨w.heap.size, 1, none⟩ = some b := by
  refine keep_first (T := T) ?_
  exact ((Below.refl _ _).alloc (Nat.le_refl _) _).trans (hb.mono (by simp))
theorem cell_second (w : World) (o : Obj) (v : Value) (T : TypeId) : ((w.alloc o).alloc (.cells #[v] T)).cell? ⟨w.heap.size + 1, 0, none⟩ = some v := by
  have e : (w.alloc o).heap.size = w.heap.size + 1 := by simp
  rw [← e, World.cell?_alloc_new]; rfl
theorem size_second (w : World) (o o' : Obj) : w.heap.size + 1 < ((w.alloc o).alloc o').heap.size := by simp
theorem resC_zero {p n a : Int} (h : resC p n a = 0) : ringM p n ≠ 0 ∧ 0 ≤ a ∧ a < ringM p n := by
  unfold resC at h
  split at h
  · omega
  · split at h
    · rename_i h1 h2; exact ⟨h1, h2⟩
    · omega
theorem isUnit_any (p n a : Int) (w : World) (hp : 2 ≤ p) (ha : 0 ≤ a) :
    Calls Try.prog 59 #[.agg #[.int .i64 p, .int .i64 n], .int .i64 a] w fun e w' => e = .returned (.bool (!(a % p == 0))) ∧ Below w.heap.size w w' := by
  have hz : (p == 0) = false := by simp; omega
  go_enter Try.func59, Try.ntmps59
  go_wp2
  go_ret
  exact ⟨ret_bool (by first | rfl | simp), (Below.refl _ _).alloc (Nat.le_refl _) _⟩
theorem l02Code_any (p n a : Int) (w : World) :
    Calls Try.prog 62 #[.agg #[.int .i64 p, .int .i64 n], .int .i64 a] w fun e w' => e = .returned (.int .i64 (resC p n a)) ∧ Below w.heap.size w w' := by
  by_cases h0 : ringM p n = 0
  · have hd := ringB_f h0
    simp only [resC, h0, if_true]
    clear h0
    go_enter Try.func62, Try.ntmps62
    go_wp2_with (go_at_call 22; refine (specIsRing_any _ _ _).mono ?_; rintro e wn ⟨rfl, hb⟩; (first | have hH := keep_first hb | have hH := keep_next ⟨hB, c0, c1⟩ hb); obtain ⟨hB, c0, c1⟩ := hH)
    go_ret
    exact ⟨rfl, hB⟩
  · have hd := ringB_t h0
    obtain ⟨_, _, hn1, hn2, hm1, hm2, _⟩ := ringM_bd h0
    have H := Lib.hid (And.intro (ringM_in h0).1 (And.intro hn1 (show n ≤ 1000 by omega)))
    by_cases ha : 0 ≤ a ∧ a < ringM p n
    · have hi : inB a 0 (ringM p n - 1) = true := inB_t ha.1 (by omega)
      simp only [resC, h0, ha, and_self, if_true, if_false]
      clear h0 ha
      go_enter Try.func62, Try.ntmps62
      go_wp2_with (first | (go_at_call 22; refine (specIsRing_any _ _ _).mono ?_; rintro e wn ⟨rfl, hb⟩; (first | have hH := keep_first hb | have hH := keep_next ⟨hB, c0, c1⟩ hb); obtain ⟨hB, c0, c1⟩ := hH) | (go_at_call 64; refine (l02Modulus_any _ _ _ H.out.1 H.out.2.1 H.out.2.2).mono ?_; rintro e wn ⟨rfl, rfl⟩) | (go_at_call 70; refine (in_any _ _ _ _).mono ?_; rintro e wn ⟨rfl, rfl⟩))
      go_ret
      exact ⟨rfl, hB⟩
    · have hi : inB a 0 (ringM p n - 1) = false := inB_f (by omega)
      simp only [resC, h0, ha, if_false]
      clear h0 ha
      go_enter Try.func62, Try.ntmps62
      go_wp2_with (first | (go_at_call 22; refine (specIsRing_any _ _ _).mono ?_; rintro e wn ⟨rfl, hb⟩; (first | have hH := keep_first hb | have hH := keep_next ⟨hB, c0, c1⟩ hb); obtain ⟨hB, c0, c1⟩ := hH) | (go_at_call 64; refine (l02Modulus_any _ _ _ H.out.1 H.out.2.1 H.out.2.2).mono ?_; rintro e wn ⟨rfl, rfl⟩) | (go_at_call 70; refine (in_any _ _ _ _).mono ?_; rintro e wn ⟨rfl, rfl⟩))
      go_ret
      exact ⟨rfl, hB⟩
def unitC (p n a : Int) : Int := if resC p n a = 0 then (if a % p = 0 then 5 else 0) else resC p n a
def invV (p n a : Int) : Int := if unitC p n a = 0 then bezX a (ringM p n) % ringM p n else 0
theorem inverseBy_any (a m : Int) (w : World) (hva : valueB a = true) (hvm : valueB m = true) (hm1 : 2 ≤ m) (hm2 : m ≤ 1000000000) :
    Calls Try.prog 60 #[.int .i64 a, .int .i64 m] w fun e w' => e = .returned (.int .i64 (bezX a m % m)) ∧ w = w' := by
  go_enter Try.func60, Try.ntmps60
  go_wp2_with (first | (go_at_call 110; refine (implBez_val _ _ _ hva hvm).mono ?_; rintro e wn ⟨rfl, rfl⟩) | (go_at_call 111; refine (remainder_any _ _ _ hm1 hm2).mono ?_; rintro e wn ⟨rfl, rfl⟩))
  go_ret
  exact ⟨rfl, rfl⟩
theorem implInverse_any (p n a : Int) (w : World) :
    Calls Try.prog 13 #[.agg #[.int .i64 p, .int .i64 n], .int .i64 a] w fun e w' => e = .returned (.tuple #[.int .i64 (invV p n a), .int .i64 (unitC p n a)]) ∧ Below w.heap.size w w' := by
  by_cases hr : resC p n a = 0
  · have hk : (resC p n a == 0) = true := by simp [hr]
    obtain ⟨h0, ha0, ha1⟩ := resC_zero hr
    obtain ⟨hp2, _, _, _, hm1, hm2, _⟩ := ringM_bd h0
    by_cases hu : a % p = 0
    · have hq : (a % p == 0) = true := by simp [hu]
      rw [show invV p n a = 0 by simp [invV, unitC, hr, hu], show unitC p n a = 5 by simp [unitC, hr, hu]]
      clear h0 hr hu
      go_enter Try.func13, Try.ntmps13
      go_wp2_with (first | (go_at_call 58; refine (checkOne_any _ _ a _ _ ?_ ?_).mono ?_; (exact cell_second _ _ _ _); (exact size_second _ _ _); rintro e' wn ⟨rfl, hb⟩; have hH := keep_alloc hb; obtain ⟨hB, c0, c1⟩ := hH) | (go_at_call 59; refine (isUnit_any _ _ _ _ hp2 ha0).mono ?_; rintro e wn ⟨rfl, hb⟩; (first | have hH := keep_first hb | have hH := keep_next ⟨hB, c0, c1⟩ hb); obtain ⟨hB, c0, c1⟩ := hH))
      go_ret2
      exact ⟨rfl, hB⟩
    · have hq : (a % p == 0) = false := by simp [hu]
      have hva : valueB a = true := valueB_t (by omega) (by omega)
      have hvm : valueB (ringM p n) = true := valueB_t (by omega) (by omega)
      rw [show invV p n a = bezX a (ringM p n) % ringM p n by simp [invV, unitC, hr, hu], show unitC p n a = 0 by simp [unitC, hr, hu]]
      clear h0 hr hu
      go_enter Try.func13, Try.ntmps13
      go_wp2_with (first | (go_at_call 58; refine (checkOne_any _ _ a _ _ ?_ ?_).mono ?_; (exact cell_second _ _ _ _); (exact size_second _ _ _); rintro e' wn ⟨rfl, hb⟩; have hH := keep_alloc hb; obtain ⟨hB, c0, c1⟩ := hH) | (go_at_call 59; refine (isUnit_any _ _ _ _ hp2 ha0).mono ?_; rintro e wn ⟨rfl, hb⟩; (first | have hH := keep_first hb | have hH := keep_next ⟨hB, c0, c1⟩ hb); obtain ⟨hB, c0, c1⟩ := hH) | (go_at_call 61; refine (implModulus_any _ _ _).mono ?_; rintro e wn ⟨rfl, hb⟩; (first | have hH := keep_first hb | have hH := keep_next ⟨hB, c0, c1⟩ hb); obtain ⟨hB, c0, c1⟩ := hH) | (go_at_call 60; refine (inverseBy_any _ _ _ hva hvm hm1 hm2).mono ?_; rintro e wn ⟨rfl, rfl⟩))
      go_ret2
      exact ⟨rfl, hB⟩
  · have hk : (resC p n a == 0) = false := by simp [hr]
    rw [show invV p n a = 0 by simp [invV, unitC, hr], show unitC p n a = resC p n a by simp [unitC, hr]]
    clear hr
    go_enter Try.func13, Try.ntmps13
    go_wp2_with (first | (go_at_call 58; refine (checkOne_any _ _ a _ _ ?_ ?_).mono ?_; (exact cell_second _ _ _ _); (exact size_second _ _ _); rintro e' wn ⟨rfl, hb⟩; have hH := keep_alloc hb; obtain ⟨hB, c0, c1⟩ := hH))
    go_ret2
    exact ⟨rfl, hB⟩
theorem l02Inverse_any (a m : Int) (w : World) (h1 : 0 ≤ a) (h2 : a < m) (hm1 : 2 ≤ m) (hm2 : m ≤ 1000000000) :
    Calls Try.prog 63 #[.int .i64 a, .int .i64 m] w fun e w' => e = .returned (.int .i64 (bezX a m % m)) ∧ w = w' := by
  have hv1 : -1000000000000 ≤ a := by omega
  have hv2 : a ≤ 1000000000000 := by omega
  have hv3 : -1000000000000 ≤ m := by omega
  have hv4 : m ≤ 1000000000000 := by omega
  go_enter Try.func63, Try.ntmps63
  go_wp2_with (first | (go_at_call 113; refine (l01Bez_any _ _ _ hv1 hv2 hv3 hv4).mono ?_; rintro e wn ⟨rfl, rfl⟩) | (go_at_call 114; refine (l01Mod_any _ _ _ hm1 hm2).mono ?_; rintro e wn ⟨rfl, rfl⟩))
  go_ret
  exact ⟨rfl, rfl⟩
theorem specInverse_any (p n a : Int) (w : World) :
    Calls Try.prog 14 #[.agg #[.int .i64 p, .int .i64 n], .int .i64 a] w fun e w' => e = .returned (.tuple #[.int .i64 (invV p n a), .int .i64 (unitC p n a)]) ∧ Below w.heap.size w w' := by
  by_cases hr : resC p n a = 0
  · have hk : (resC p n a == 0) = true := by simp [hr]
    obtain ⟨h0, hv1, hv2⟩ := resC_zero hr
    obtain ⟨hp2, _, hn1, hn2, hm1, hm2, _⟩ := ringM_bd h0
    have hz : (p == 0) = false := by simp; omega
    have H := Lib.hid (And.intro (ringM_in h0).1 (And.intro hn1 (show n ≤ 1000 by omega)))
    by_cases hu : a % p = 0
    · have hq : (a % p == 0) = true := by simp [hu]
      rw [show invV p n a = 0 by simp [invV, unitC, hr, hu], show unitC p n a = 5 by simp [unitC, hr, hu]]
      clear h0 hr hu
      go_enter Try.func14, Try.ntmps14
      go_wp2_with (first | (go_at_call 62; refine (l02Code_any _ _ _ _).mono ?_; rintro e wn ⟨rfl, hb⟩; (first | have hH := keep_first hb | have hH := keep_next ⟨hB, c0, c1⟩ hb); obtain ⟨hB, c0, c1⟩ := hH))
      go_ret2
      exact ⟨rfl, hB⟩
    · have hq : (a % p == 0) = false := by simp [hu]
      rw [show invV p n a = bezX a (ringM p n) % ringM p n by simp [invV, unitC, hr, hu], show unitC p n a = 0 by simp [unitC, hr, hu]]
      clear h0 hr hu
      go_enter Try.func14, Try.ntmps14
      go_wp2_with (first | (go_at_call 62; refine (l02Code_any _ _ _ _).mono ?_; rintro e wn ⟨rfl, hb⟩; (first | have hH := keep_first hb | have hH := keep_next ⟨hB, c0, c1⟩ hb); obtain ⟨hB, c0, c1⟩ := hH) | (go_at_call 64; refine (l02Modulus_any _ _ _ H.out.1 H.out.2.1 H.out.2.2).mono ?_; rintro e wn ⟨rfl, rfl⟩) | (go_at_call 63; refine (l02Inverse_any _ _ _ hv1 hv2 hm1 hm2).mono ?_; rintro e wn ⟨rfl, rfl⟩))
      go_ret2
      exact ⟨rfl, hB⟩
  · have hk : (resC p n a == 0) = false := by simp [hr]
    rw [show invV p n a = 0 by simp [invV, unitC, hr], show unitC p n a = resC p n a by simp [unitC, hr]]
    clear hr
    go_enter Try.func14, Try.ntmps14
    go_wp2_with (first | (go_at_call 62; refine (l02Code_any _ _ _ _).mono ?_; rintro e wn ⟨rfl, hb⟩; (first | have hH := keep_first hb | have hH := keep_next ⟨hB, c0, c1⟩ hb); obtain ⟨hB, c0, c1⟩ := hH))
    go_ret2
    exact ⟨rfl, hB⟩
end Go.Proofs.Ytgckamlibbjgcaa
