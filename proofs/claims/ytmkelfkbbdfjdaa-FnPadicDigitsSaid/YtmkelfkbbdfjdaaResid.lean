/- Contracts of the walk: the codes of residues, both InverseOf, both PowerOf, both TeichmuellerOf, and the laws FnExactInverseOf, FnExactPowerOf, FnExactTeichmuellerOf. -/
import Derived.Test.YtmkelfkbbdfjdaaRingLaw
import Derived.Test.YtmkelfkbbdfjdaaPower
namespace Go.Proofs.Ytmkelfkbbdfjdaa
open Go.RowKit
set_option linter.unusedVariables false
theorem keep_alloc {w w1 : World} {a b : Value} {T : TypeId} {o : Obj} (hb : Below ((w.alloc (.cells #[a, b] T)).alloc o).heap.size ((w.alloc (.cells #[a, b] T)).alloc o) w1) :
    Below w.heap.size w w1 ∧ w1.cell? ⟨w.heap.size, 0, none⟩ = some a ∧ w1.cell? ⟨w.heap.size, 1, none⟩ = some b := by
  refine keep_first (T := T) ?_
  exact ((Below.refl _ _).alloc (Nat.le_refl _) _).trans (hb.mono (by simp))
theorem cell_second (w : World) (o : Obj) (v : Value) (T : TypeId) : ((w.alloc o).alloc (.cells #[v] T)).cell? ⟨w.heap.size + 1, 0, none⟩ = some v := by
  have e : (w.alloc o).heap.size = w.heap.size + 1 := by simp
  rw [← e, World.cell?_alloc_new]; rfl
theorem size_second (w : World) (o o' : Obj) : w.heap.size + 1 < ((w.alloc o).alloc o').heap.size := by simp
theorem resC_zero {p n a : Int} (h : resC p n a = 0) : ringM p n ≠ 0 ∧ 0 ≤ a ∧ a < ringM p n := by
  unfold resC at h
  split at h
  · omega
  · split at h
    · rename_i h1 h2; exact ⟨h1, h2⟩
    · omega
theorem isUnit_any (p n a : Int) (w : World) (hp : 2 ≤ p) (ha : 0 ≤ a) :
    Calls Try.prog 53 #[.agg #[.int .i64 p, .int .i64 n], .int .i64 a] w fun e w' => e = .returned (.bool (!(a % p == 0))) ∧ Below w.heap.size w w' := by
  have hz : (p == 0) = false := by simp; omega
  go_enter Try.func53, Try.ntmps53
  go_wp2
  go_ret
  exact ⟨ret_bool (by first | rfl | simp), (Below.refl _ _).alloc (Nat.le_refl _) _⟩
def unitC (p n a : Int) : Int := if resC p n a = 0 then (if a % p = 0 then 5 else 0) else resC p n a
def invV (p n a : Int) : Int := if unitC p n a = 0 then bezX a (ringM p n) % ringM p n else 0
theorem inverseBy_any (a m : Int) (w : World) (hva : valueB a = true) (hvm : valueB m = true) (hm1 : 2 ≤ m) (hm2 : m ≤ 1000000000) :
    Calls Try.prog 111 #[.int .i64 a, .int .i64 m] w fun e w' => e = .returned (.int .i64 (bezX a m % m)) ∧ w = w' := by
  go_enter Try.func111, Try.ntmps111
  go_wp2_with (first | (go_at_call 128; refine (implBez_val _ _ _ hva hvm).mono ?_; rintro e wn ⟨rfl, rfl⟩) | (go_at_call 113; refine (remainder_any _ _ _ hm1 hm2).mono ?_; rintro e wn ⟨rfl, rfl⟩))
  go_ret
  exact ⟨rfl, rfl⟩
theorem l02Inverse_any (a m : Int) (w : World) (h1 : 0 ≤ a) (h2 : a < m) (hm1 : 2 ≤ m) (hm2 : m ≤ 1000000000) :
    Calls Try.prog 83 #[.int .i64 a, .int .i64 m] w fun e w' => e = .returned (.int .i64 (bezX a m % m)) ∧ w = w' := by
  have hv1 : -1000000000000 ≤ a := by omega
  have hv2 : a ≤ 1000000000000 := by omega
  have hv3 : -1000000000000 ≤ m := by omega
  have hv4 : m ≤ 1000000000000 := by omega
  go_enter Try.func83, Try.ntmps83
  go_wp2_with (first | (go_at_call 101; refine (l01Bez_any _ _ _ hv1 hv2 hv3 hv4).mono ?_; rintro e wn ⟨rfl, rfl⟩) | (go_at_call 62; refine (l01Mod_any _ _ _ hm1 hm2).mono ?_; rintro e wn ⟨rfl, rfl⟩))
  go_ret
  exact ⟨rfl, rfl⟩
end Go.Proofs.Ytmkelfkbbdfjdaa
